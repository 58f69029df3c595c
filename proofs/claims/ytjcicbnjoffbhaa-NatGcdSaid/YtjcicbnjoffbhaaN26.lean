/- The laws NatCmp and NatRing. -/
import Derived.Test.YtjcicbnjoffbhaaN25
set_option linter.unusedSimpArgs false
set_option linter.unusedVariables false
namespace Go.Proofs.Ytjcicbnjoffbhaa
open Go Go.RowKit Nt

theorem drawn_below {w w' : World} (h : Drawn w w') : Below w.heap.size w w' := by obtain ⟨n, rfl⟩ := h; exact below_drewN (Below.refl _ _) n
theorem beq_self_int (z : Int) : (z == z) = true := by simp
set_option maxRecDepth 100000 in
set_option maxHeartbeats 1000000 in
theorem NatCmp_law (s t : ByteArray) (hs : s.size ≤ maxLen) (ht : t.size ≤ maxLen) (w : World) :
    Calls Try.prog 4 #[.string s, .string t] w fun e w' => e = .returned (.bool true) ∧ Below w.heap.size w w' := by
  unfold maxLen at hs ht
  have hz : ∀ x ∈ [s, t], x.size ≤ 9223372036854775807 := fun x hx => by
    rcases List.mem_cons.1 hx with rfl | hx
    · exact hs
    · rw [List.mem_singleton.1 hx]; exact ht
  have hrf := fun w => refused_c (some ⟨w.heap.size, 0, none⟩) 2 [s, t] (w.alloc (.cells ([s, t].map Value.string).toArray 22)) (by simp) hz (strs_new w 22 [s, t])
  by_cases hm : May s ∧ May t
  · have hr : refB [s, t] = false := refB_no (fun x hx => by
      rcases List.mem_cons.1 hx with rfl | hx
      · exact hm.1
      · rw [List.mem_singleton.1 hx]; exact hm.2)
    obtain ⟨a, ha, rfl⟩ := may_num hm.1
    obtain ⟨b, hb, rfl⟩ := may_num hm.2
    have hbe := beq_self_int (cmpN a b)
    have HRF := Lib.hid hrf
    clear hz hrf hm hs ht
    go_enter Try.func4, Try.ntmps4
    go_wp2_with fail
    refine (NCmp_c _ _ _ ha hb).mono ?_
    rintro e w1 ⟨rfl, hb1⟩
    go_wp2_with fail
    refine (HRF.out _).mono ?_
    rintro e w2 ⟨rfl, rfl⟩
    have hb2 : Below w1.heap.size w1 (w1.alloc (.cells ([natS a, natS b].map Value.string).toArray 22)) := (Below.refl _ _).alloc (Nat.le_refl _) _
    generalize w1.alloc (.cells ([natS a, natS b].map Value.string).toArray 22) = w2 at *
    go_wp2_with fail
    refine (rCmp_c _ _ _ ha hb).mono ?_
    rintro e w3 ⟨rfl, hd⟩
    have hb3 := drawn_below hd
    clear hd
    go_wp2_with fail
    refine (awake_c _).mono ?_
    rintro e w4 ⟨rfl, hb4⟩
    go_wp2_with fail
    go_ret
    exact ⟨rfl, below_chain hb1 (below_chain hb2 (below_chain hb3 hb4))⟩
  · have hr : refB [s, t] = true := by
      by_cases h1 : May s
      · exact refB_yes (s := t) (by simp) (fun c => hm ⟨h1, c⟩)
      · exact refB_yes (s := s) (by simp) h1
    have HRF := Lib.hid hrf
    have HM := Lib.hid hm
    clear hz hrf hm
    go_enter Try.func4, Try.ntmps4
    go_wp2_with fail
    refine (Cmp_no _ _ _ HM.out).mono ?_
    rintro e w1 ⟨rfl, hb1⟩
    go_wp2_with fail
    refine (HRF.out _).mono ?_
    rintro e w2 ⟨rfl, rfl⟩
    have hb2 : Below w1.heap.size w1 (w1.alloc (.cells ([s, t].map Value.string).toArray 22)) := (Below.refl _ _).alloc (Nat.le_refl _) _
    generalize w1.alloc (.cells ([s, t].map Value.string).toArray 22) = w2 at *
    go_wp2_with fail
    refine (awake_c _).mono ?_
    rintro e w4 ⟨rfl, hb4⟩
    go_wp2_with fail
    go_ret
    exact ⟨rfl, below_chain hb1 (below_chain hb2 hb4)⟩
end Go.Proofs.Ytjcicbnjoffbhaa
