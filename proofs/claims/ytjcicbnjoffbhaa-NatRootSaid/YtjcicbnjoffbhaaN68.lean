/- The law NatRoot. -/
import Derived.Test.YtjcicbnjoffbhaaN67
set_option linter.unusedSimpArgs false
set_option linter.unusedVariables false
namespace Go.Proofs.Ytjcicbnjoffbhaa
open Go Go.RowKit Nt

theorem refused1' (s : ByteArray) (hz : s.size ≤ 9223372036854775807) (w : World) :
    Calls Try.prog 22 #[.slice (some ⟨w.heap.size, 0, none⟩) 1 1] (w.alloc (.cells #[.string s] 22)) (fun e w' => e = .returned (.bool (refB [s])) ∧ Below w.heap.size w w') := by
  refine (refused_c (some ⟨w.heap.size, 0, none⟩) 1 [s] (w.alloc (.cells ([s].map Value.string).toArray 22)) (by simp) (by simpa using hz) (strs_new w 22 [s])).mono ?_
  rintro e w' ⟨rfl, rfl⟩
  exact ⟨rfl, (Below.refl _ _).alloc (Nat.le_refl _) _⟩
set_option maxRecDepth 100000 in
theorem NRoot_no (s : ByteArray) (w : World) (h : ¬ May s) :
    Calls Try.prog 51 #[.string s] w (Str2Post ⟨#[]⟩ ⟨#[]⟩ 2 w) := by
  have hm := may1_no h
  go_enter Try.func51, Try.ntmps51
  go_wp2_with (go_at_call 21; refine (Check_c _ _).mono ?_; rintro e w1 ⟨rfl, hb⟩)
  first
    | (go_ret3; exact ⟨rfl, hb⟩)
    | exact bodyPost_ret (v := .tuple #[.string ⟨#[]⟩, .string ⟨#[]⟩, .int .i64 2]) (by simp [results, Try.results51, go_sem]) rfl ⟨rfl, hb⟩
set_option maxRecDepth 100000 in
set_option maxHeartbeats 1000000 in
theorem NatRoot_law (s : ByteArray) (hs : s.size ≤ maxLen) (w : World) :
    Calls Try.prog 11 #[.string s] w fun e w' => e = .returned (.bool true) ∧ Below w.heap.size w w' := by
  unfold maxLen at hs
  have hr := fun w => refused1' s hs w
  by_cases hm : May s
  · rw [refB_no (ss := [s]) (by simpa using hm)] at hr
    obtain ⟨a, ha, rfl⟩ := may_num hm
    have KM := Lib.hid (fun w => NRoot_c a w ha)
    have HRF := Lib.hid hr
    have hsa := natS_size a
    obtain ⟨A, hA⟩ : ∃ A, A = nd 256 a := ⟨_, rfl⟩
    have HA := Lib.hid hA
    rw [← hA] at hsa
    clear hA hr hm hs
    by_cases h1 : 200 < A
    · go_enter Try.func11, Try.ntmps11
      go_wp2_with fail
      refine (KM.out _).mono ?_
      rintro e w1 ⟨x, hx, rfl, hb1⟩
      have HX := Lib.hid hx
      clear hx
      go_wp2_with fail
      refine (HRF.out _).mono ?_
      rintro e w2 ⟨rfl, hb2⟩
      go_wp2_with fail
      refine (awake_c _).mono ?_
      rintro e w4 ⟨rfl, hb4⟩
      go_wp2_with fail
      go_ret
      exact ⟨rfl, below_chain hb1 (below_chain hb2 hb4)⟩
    · have h1' : ¬ (200 : Int) < (A : Int) := by omega
      have KR := Lib.hid (fun w => rRoot_c a w (by have := HA.out; omega))
      go_enter Try.func11, Try.ntmps11
      go_wp2_with fail
      refine (KM.out _).mono ?_
      rintro e w1 ⟨x, hx, rfl, hb1⟩
      have HX := Lib.hid hx
      clear hx
      go_wp2_with fail
      refine (HRF.out _).mono ?_
      rintro e w2 ⟨rfl, hb2⟩
      go_wp2_with fail
      refine (KR.out _).mono ?_
      rintro e w3 ⟨y, hy, rfl, hb3⟩
      obtain rfl := root_one HX.out hy
      clear hy
      go_wp2_with fail
      refine (awake_c _).mono ?_
      rintro e w4 ⟨rfl, hb4⟩
      go_wp2_with fail
      go_ret
      exact ⟨rfl, below_chain hb1 (below_chain hb2 (below_chain hb3 hb4))⟩
  · rw [refB_yes (s := s) (by simp) hm] at hr
    have KM := Lib.hid (fun w => NRoot_no s w hm)
    have HRF := Lib.hid hr
    clear hr hm hs
    go_enter Try.func11, Try.ntmps11
    go_wp2_with fail
    refine (KM.out _).mono ?_
    rintro e w1 ⟨rfl, hb1⟩
    go_wp2_with fail
    refine (HRF.out _).mono ?_
    rintro e w2 ⟨rfl, hb2⟩
    go_wp2_with fail
    refine (awake_c _).mono ?_
    rintro e w4 ⟨rfl, hb4⟩
    go_wp2_with fail
    go_ret
    exact ⟨rfl, below_chain hb1 (below_chain hb2 hb4)⟩
end Go.Proofs.Ytjcicbnjoffbhaa
