/- The law NatRing: its cases. -/
import Derived.Test.YtjcicbnjoffbhaaN27
set_option linter.unusedSimpArgs false
set_option linter.unusedVariables false
namespace Go.Proofs.Ytjcicbnjoffbhaa
open Go Go.RowKit Nt

theorem refused3 (s t u : ByteArray) (hz : ∀ x ∈ [s, t, u], x.size ≤ 9223372036854775807) (w : World) :
    Calls Try.prog 22 #[.slice (some ⟨w.heap.size, 0, none⟩) 3 3] (w.alloc (.cells #[.string s, .string t, .string u] 22)) (fun e w' => e = .returned (.bool (refB [s, t, u])) ∧ Below w.heap.size w w') := by
  refine (refused_c (some ⟨w.heap.size, 0, none⟩) 3 [s, t, u] (w.alloc (.cells ([s, t, u].map Value.string).toArray 22)) (by simp) hz (strs_new w 22 [s, t, u])).mono ?_
  rintro e w' ⟨rfl, rfl⟩
  exact ⟨rfl, (Below.refl _ _).alloc (Nat.le_refl _) _⟩
set_option maxRecDepth 1000000 in
set_option maxHeartbeats 1000000 in
theorem ring_refused (s t u : ByteArray) (hz : ∀ x ∈ [s, t, u], x.size ≤ 9223372036854775807) (h : refB [s, t, u] = true) (w : World) :
    Calls Try.prog 13 #[.string s, .string t, .string u] w fun e w' => e = .returned (.bool true) ∧ Below w.heap.size w w' := by
  have hr := fun w => refused3 s t u hz w
  rw [h] at hr
  have HR := Lib.hid hr
  clear hr hz h
  go_enter Try.func13, Try.ntmps13
  go_wp2_with fail
  refine (HR.out _).mono ?_
  rintro e w0 ⟨rfl, hb0⟩
  go_wp2_with fail
  refine (awake_c _).mono ?_
  rintro e w1 ⟨rfl, hb1⟩
  go_wp2_with fail
  go_ret
  exact ⟨rfl, below_chain hb0 hb1⟩
set_option maxRecDepth 1000000 in
set_option maxHeartbeats 1000000 in
theorem ring_long (a b c : Nat) (ha : fits a) (hb : fits b) (hc : fits c) (hl : 8000 < nd 256 a + nd 256 b + nd 256 c) (hz : ∀ x ∈ [natS a, natS b, natS c], x.size ≤ 9223372036854775807) (h : refB [natS a, natS b, natS c] = false) (w : World) :
    Calls Try.prog 13 #[.string (natS a), .string (natS b), .string (natS c)] w fun e w' => e = .returned (.bool true) ∧ Below w.heap.size w w' := by
  have hr := fun w => refused3 (natS a) (natS b) (natS c) hz w
  rw [h] at hr
  have HR := Lib.hid hr
  have hsa := natS_size a
  have hsb := natS_size b
  have hsc := natS_size c
  unfold fits at ha hb hc
  have hA : (nd 256 a : Int) ≤ 16384 := by omega
  have hB : (nd 256 b : Int) ≤ 16384 := by omega
  have hC : (nd 256 c : Int) ≤ 16384 := by omega
  have hD : (8000 : Int) < (nd 256 a : Int) + (nd 256 b : Int) + (nd 256 c : Int) := by omega
  clear hr hz h
  go_enter Try.func13, Try.ntmps13
  go_wp2_with fail
  refine (HR.out _).mono ?_
  rintro e w0 ⟨rfl, hb0⟩
  go_wp2_with fail
  refine (awake_c _).mono ?_
  rintro e w1 ⟨rfl, hb1⟩
  go_wp2_with fail
  go_ret
  exact ⟨rfl, below_chain hb0 hb1⟩
theorem NatRing_law (s t u : ByteArray) (hs : s.size ≤ maxLen) (ht : t.size ≤ maxLen) (hu : u.size ≤ maxLen) (w : World) :
    Calls Try.prog 13 #[.string s, .string t, .string u] w fun e w' => e = .returned (.bool true) ∧ Below w.heap.size w w' := by
  unfold maxLen at hs ht hu
  have hz : ∀ x ∈ [s, t, u], x.size ≤ 9223372036854775807 := fun x hx => by
    simp only [List.mem_cons, List.not_mem_nil, or_false] at hx
    rcases hx with rfl | rfl | rfl
    · exact hs
    · exact ht
    · exact hu
  by_cases hm : May s ∧ May t ∧ May u
  · have hr : refB [s, t, u] = false := refB_no (fun x hx => by
      simp only [List.mem_cons, List.not_mem_nil, or_false] at hx
      rcases hx with rfl | rfl | rfl
      · exact hm.1
      · exact hm.2.1
      · exact hm.2.2)
    obtain ⟨a, ha, rfl⟩ := may_num hm.1
    obtain ⟨b, hb, rfl⟩ := may_num hm.2.1
    obtain ⟨c, hc, rfl⟩ := may_num hm.2.2
    by_cases hl : 8000 < nd 256 a + nd 256 b + nd 256 c
    · exact ring_long a b c ha hb hc hl hz hr w
    · obtain ⟨m, hm0⟩ : ∃ m, m = nd 256 a + nd 256 b + nd 256 c := ⟨_, rfl⟩
      have la : nd 256 a ≤ m := by omega
      have lb : nd 256 b ≤ m := by omega
      have lc : nd 256 c ≤ m := by omega
      have h2 : (2 : Nat) ≤ 256 := by omega
      have f1 := add_nd h2 la lb
      have f2 := mul_nd h2 a b
      have f3 := add_nd h2 f1 (Nat.le_succ_of_le lc)
      have f4 := add_nd h2 lb lc
      have f5 := mul_nd h2 (a * b) c
      have f6 := mul_nd h2 b c
      have f7 := mul_nd h2 a (b + c)
      have f8 := mul_nd h2 a c
      have F1 : fits (a + b) := by unfold fits; omega
      have F2 : fits (a * b) := by unfold fits; omega
      have F3 : fits (a + b + c) := by unfold fits; omega
      have F4 : fits (b + c) := by unfold fits; omega
      have F5 : fits (a * b * c) := by unfold fits; omega
      have F6 : fits (b * c) := by unfold fits; omega
      have F7 : fits (a * (b + c)) := by unfold fits; omega
      have F8 : fits (a * c) := by unfold fits; omega
      refine ring_walk a b c (a + b) (a * b) (a + b + c) (b + c) (a * b * c) (b * c) (a * (b + c)) (a * c) w (by omega) (fun w => by have := refused3 _ _ _ hz w; rwa [hr] at this)
        (fun w => add_ok w ha hb F1) (fun w => ?_) (fun w => mul_ok w ha hb F2) (fun w => ?_) (fun w => ?_) (fun w => add_ok w F1 hc F3) (fun w => add_ok w hb hc F4) (fun w => ?_) (fun w => sum3_ok w ha hb hc F3)
        (fun w => mul_ok w F2 hc F5) (fun w => mul_ok w hb hc F6) (fun w => ?_) (fun w => mul_ok w ha F4 F7) (fun w => mul_ok w ha hc F8) (fun w => ?_)
      · have := add_ok w hb ha (by rw [Nat.add_comm]; exact F1); rwa [Nat.add_comm] at this
      · have := mul_ok w hb ha (by rw [Nat.mul_comm]; exact F2); rwa [Nat.mul_comm] at this
      · have := NSub_c (a + b) b w F1 hb (by omega); rwa [Nat.add_sub_cancel] at this
      · have := add_ok w ha F4 (by rw [← Nat.add_assoc]; exact F3); rwa [← Nat.add_assoc] at this
      · have := mul_ok w ha F6 (by rw [← Nat.mul_assoc]; exact F5); rwa [← Nat.mul_assoc] at this
      · have := add_ok w F2 F8 (by rw [← Nat.mul_add]; exact F7); rwa [← Nat.mul_add] at this
  · refine ring_refused s t u hz ?_ w
    by_cases h1 : May s
    · by_cases h2 : May t
      · exact refB_yes (s := u) (by simp) (fun c => hm ⟨h1, h2, c⟩)
      · exact refB_yes (s := t) (by simp) h2
    · exact refB_yes (s := s) (by simp) h1
end Go.Proofs.Ytjcicbnjoffbhaa
