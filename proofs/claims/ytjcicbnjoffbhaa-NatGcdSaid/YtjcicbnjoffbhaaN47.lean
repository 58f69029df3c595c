/- The law NatMul; what is(..) answers. -/
import Derived.Test.YtjcicbnjoffbhaaN46
set_option linter.unusedSimpArgs false
set_option linter.unusedVariables false
namespace Go.Proofs.Ytjcicbnjoffbhaa
open Go Go.RowKit Nt

set_option maxRecDepth 100000 in
theorem is_c (s : ByteArray) (r : Int) (w : World) :
    Calls Try.prog 39 #[.string s, .int .i64 r, .string s, .int .i64 r, .slice none 0 0] w fun e w' => e = .returned (.bool true) ∧ w = w' := by
  have hr := fun w => refused_c none 0 [] w (by simp) (by simp) (fun h => absurd h (by simp))
  rw [refB_no (ss := []) (by simp)] at hr
  have HR := Lib.hid hr
  have hrr : (r == r) = true := by simp
  clear hr
  go_enter Try.func39, Try.ntmps39
  go_wp2_with fail
  refine (HR.out _).mono ?_
  rintro e w' ⟨rfl, rfl⟩
  go_wp2_with fail
  go_ret
  exact ⟨rfl, rfl⟩
theorem refused2 (s t : ByteArray) (hs : s.size ≤ 9223372036854775807) (ht : t.size ≤ 9223372036854775807) (w : World) :
    Calls Try.prog 22 #[.slice (some ⟨w.heap.size, 0, none⟩) 2 2] (w.alloc (.cells #[.string s, .string t] 22)) (fun e w' => e = .returned (.bool (refB [s, t])) ∧ Below w.heap.size w w') := by
  refine (refused_c (some ⟨w.heap.size, 0, none⟩) 2 [s, t] (w.alloc (.cells ([s, t].map Value.string).toArray 22)) (by simp) (by
    intro x hx
    rcases List.mem_cons.1 hx with rfl | hx
    · exact hs
    · rw [List.mem_singleton.1 hx]; exact ht) (strs_new w 22 [s, t])).mono ?_
  rintro e w' ⟨rfl, rfl⟩
  exact ⟨rfl, (Below.refl _ _).alloc (Nat.le_refl _) _⟩
theorem refB2_no {s t : ByteArray} (h1 : May s) (h2 : May t) : refB [s, t] = false := refB_no (fun x hx => by
  rcases List.mem_cons.1 hx with rfl | hx
  · exact h1
  · rw [List.mem_singleton.1 hx]; exact h2)
theorem refB2_yes {s t : ByteArray} (h : ¬ (May s ∧ May t)) : refB [s, t] = true := by
  by_cases h1 : May s
  · exact refB_yes (s := t) (by simp) (fun c => h ⟨h1, c⟩)
  · exact refB_yes (s := s) (by simp) h1
set_option maxRecDepth 100000 in
set_option maxHeartbeats 1000000 in
theorem NatMul_law (s t : ByteArray) (hs : s.size ≤ maxLen) (ht : t.size ≤ maxLen) (w : World) :
    Calls Try.prog 6 #[.string s, .string t] w fun e w' => e = .returned (.bool true) ∧ Below w.heap.size w w' := by
  unfold maxLen at hs ht
  have hr := fun w => refused2 s t hs ht w
  by_cases hm : May s ∧ May t
  · rw [refB2_no hm.1 hm.2] at hr
    obtain ⟨a, ha, rfl⟩ := may_num hm.1
    obtain ⟨b, hb, rfl⟩ := may_num hm.2
    have hsa := natS_size a
    have hsb := natS_size b
    have KM := Lib.hid (fun w => NMul_c a b w ha hb)
    have KR := Lib.hid (fun w => rMul_c a b w (by unfold fits at ha; omega) (by unfold fits at hb; omega) (fun h => by
      unfold fits at ha hb
      exact ⟨fun c => by rw [c, nd_zero] at h; omega, fun c => by rw [c, nd_zero] at h; omega⟩))
    have KI := Lib.hid (fun w => is_c (resS (a * b)) (resE (a * b)) w)
    have HRF := Lib.hid hr
    unfold fits at ha hb
    obtain ⟨A, hA⟩ : ∃ A, A = nd 256 a := ⟨_, rfl⟩
    obtain ⟨B, hB⟩ : ∃ B, B = nd 256 b := ⟨_, rfl⟩
    rw [← hA] at hsa ha
    rw [← hB] at hsb hb
    obtain ⟨Z, hZ⟩ : ∃ Z, Z = A + B := ⟨_, rfl⟩
    have hZI : (A : Int) + (B : Int) = (Z : Int) := by omega
    clear hr hm hs ht hA hB hZ
    by_cases h1 : 1200 < Z
    · by_cases h2 : Z ≤ 16385
      · go_enter Try.func6, Try.ntmps6
        go_wp2_with fail
        refine (awake_c _).mono ?_
        rintro e w4 ⟨rfl, hb4⟩
        go_wp2_with fail
        go_ret
        exact ⟨rfl, hb4⟩
      all_goals
        have h2' : ¬ (Z : Int) ≤ 16385 := by omega
        go_enter Try.func6, Try.ntmps6
        go_wp2_with fail
        refine (KM.out _).mono ?_
        rintro e w1 ⟨rfl, hb1⟩
        go_wp2_with fail
        refine (HRF.out _).mono ?_
        rintro e w2 ⟨rfl, hb2⟩
        go_wp2_with fail
        refine (KR.out _).mono ?_
        rintro e w3 ⟨rfl, hb3⟩
        go_wp2_with fail
        refine (KI.out _).mono ?_
        rintro e w5 ⟨rfl, rfl⟩
        go_wp2_with fail
        refine (awake_c _).mono ?_
        rintro e w4 ⟨rfl, hb4⟩
        go_wp2_with fail
        go_ret
        exact ⟨rfl, below_chain hb1 (below_chain hb2 (below_chain hb3 hb4))⟩
    · have h1' : ¬ (1200 : Int) < (Z : Int) := by omega
      go_enter Try.func6, Try.ntmps6
      go_wp2_with fail
      refine (KM.out _).mono ?_
      rintro e w1 ⟨rfl, hb1⟩
      go_wp2_with fail
      refine (HRF.out _).mono ?_
      rintro e w2 ⟨rfl, hb2⟩
      go_wp2_with fail
      refine (KR.out _).mono ?_
      rintro e w3 ⟨rfl, hb3⟩
      go_wp2_with fail
      refine (KI.out _).mono ?_
      rintro e w5 ⟨rfl, rfl⟩
      go_wp2_with fail
      refine (awake_c _).mono ?_
      rintro e w4 ⟨rfl, hb4⟩
      go_wp2_with fail
      go_ret
      exact ⟨rfl, below_chain hb1 (below_chain hb2 (below_chain hb3 hb4))⟩
  · rw [refB2_yes hm] at hr
    have KM := Lib.hid (fun w => NMul_no s t w hm)
    have HRF := Lib.hid hr
    obtain ⟨z, hz⟩ : ∃ z, wrap64 ((s.size : Int) + (t.size : Int)) = z := ⟨_, rfl⟩
    clear hr hm hs ht
    by_cases h1 : 1200 < z ∧ z ≤ 16385
    · obtain ⟨h1, h2⟩ := h1
      go_enter Try.func6, Try.ntmps6
      go_wp2_with fail
      refine (awake_c _).mono ?_
      rintro e w4 ⟨rfl, hb4⟩
      go_wp2_with fail
      go_ret
      exact ⟨rfl, hb4⟩
    · have h2 : ¬ 1200 < z ∨ (1200 < z ∧ ¬ z ≤ 16385) := by omega
      clear h1
      rcases h2 with h1 | ⟨h1, h2⟩
      all_goals
        go_enter Try.func6, Try.ntmps6
        go_wp2_with fail
        refine (KM.out _).mono ?_
        rintro e w1 ⟨rfl, hb1⟩
        go_wp2_with fail
        refine (HRF.out _).mono ?_
        rintro e w2 ⟨rfl, hb2⟩
        go_wp2_with fail
        refine (awake_c _).mono ?_
        rintro e w4 ⟨rfl, hb4⟩
        go_wp2_with fail
        go_ret
        exact ⟨rfl, below_chain hb1 (below_chain hb2 hb4)⟩
end Go.Proofs.Ytjcicbnjoffbhaa
