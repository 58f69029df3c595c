/- Layer 1 (bits): BitsTexts. -/
import Derived.Test.YtbmfbmepgcbhfaaDoorTx7
set_option linter.unusedSimpArgs false
set_option linter.unusedVariables false
namespace Go.Proofs.YtbmfbmepgcbhfaaDoor
open Go Go.RowKit Go.Sort Ff
attribute [local go_sem] f_lt f_gt f_eq f_ne

/-- What a text can be, and the floats of it. -/
theorem text_class {x : Nat} (hx : x < 18446744073709551616) :
    (isn x ∧ textF x = [110, 97, 110]) ∨ (¬ isn x ∧ x = 9218868437227405312 ∧ textF x = [105, 110, 102]) ∨ (¬ isn x ∧ x = 18442240474082181120 ∧ textF x = [45, 105, 110, 102]) ∨
    (¬ isn x ∧ x = wf false 0 ∧ textF x = [48]) ∨ (¬ isn x ∧ x = wf true 0 ∧ textF x = [45, 48]) ∨ (¬ isn x ∧ finB x = true ∧ rung x ≠ 0) := by
  by_cases i : isn x
  · exact Or.inl ⟨i, text_nan i⟩
  · cases hf : finB x
    · have hr : rung x = 9218868437227405312 := by have := (finB_false x).1 hf; unfold isn at i; omega
      have hw := inf_word hx hr
      have ht := text_inf i hf
      cases hs : sgn x
      · rw [hs] at hw ht; exact Or.inr (Or.inl ⟨i, hw, ht⟩)
      · rw [hs] at hw ht; exact Or.inr (Or.inr (Or.inl ⟨i, hw, ht⟩))
    · by_cases h0 : rung x = 0
      · have hw := zero_word hx h0
        have ht := text_zero i hf h0
        cases hs : sgn x
        · rw [hs] at hw ht; exact Or.inr (Or.inr (Or.inr (Or.inl ⟨i, hw.symm, ht⟩)))
        · rw [hs] at hw ht; exact Or.inr (Or.inr (Or.inr (Or.inr (Or.inl ⟨i, hw.symm, ht⟩))))
      · exact Or.inr (Or.inr (Or.inr (Or.inr (Or.inr ⟨i, rfl, h0⟩))))
theorem num_not5 {x : Nat} (i : ¬ isn x) (hf : finB x = true) (h0 : rung x ≠ 0) : ¬ (textF x = [110, 97, 110] ∨ textF x = [105, 110, 102] ∨ textF x = [45, 105, 110, 102] ∨ textF x = [48] ∨ textF x = [45, 48]) := by
  have e : textF x = (if sgn x then [45] else []) ++ numT (partM x) (partE x) := by rw [text_num i hf h0, numT_eq]; simp
  have n1 := beq_eq_false_iff_ne.1 (numT_nan (partM x) (partE x))
  have n2 := beq_eq_false_iff_ne.1 (numT_inf (partM x) (partE x))
  have n3 := beq_eq_false_iff_ne.1 (numT_0 (partM x) (partE x))
  obtain ⟨c, r, hc, h1, h2, _⟩ := numT_head (partM x) (partE x)
  rw [e]
  cases hs : sgn x
  · show ¬ (numT (partM x) (partE x) = _ ∨ numT (partM x) (partE x) = _ ∨ numT (partM x) (partE x) = _ ∨ numT (partM x) (partE x) = _ ∨ numT (partM x) (partE x) = _)
    rintro (h | h | h | h | h)
    · exact n1 h
    · exact n2 h
    · rw [hc] at h; injection h with h _; subst h; revert h1; decide
    · exact n3 h
    · rw [hc] at h; injection h with h _; subst h; revert h1; decide
  · show ¬ (45 :: numT (partM x) (partE x) = _ ∨ 45 :: numT (partM x) (partE x) = _ ∨ 45 :: numT (partM x) (partE x) = _ ∨ 45 :: numT (partM x) (partE x) = _ ∨ 45 :: numT (partM x) (partE x) = _)
    rintro (h | h | h | h | h)
    · injection h with h _; revert h; decide
    · injection h with h _; revert h; decide
    · injection h with _ h; exact n2 h
    · injection h with h _; revert h; decide
    · injection h with _ h; exact n3 h
/-- Floats of one text are alike. -/
theorem text_inj {x y : Nat} (hx : x < 18446744073709551616) (hy : y < 18446744073709551616) (h : textF x = textF y) : x = y ∨ (isn x ∧ isn y) := by
  have cx := text_class hx
  have cy := text_class hy
  rcases cx with ⟨i, tx⟩ | ⟨i, ex, tx⟩ | ⟨i, ex, tx⟩ | ⟨i, ex, tx⟩ | ⟨i, ex, tx⟩ | ⟨i, fx, rx⟩
  all_goals rcases cy with ⟨j, ty⟩ | ⟨j, ey, ty⟩ | ⟨j, ey, ty⟩ | ⟨j, ey, ty⟩ | ⟨j, ey, ty⟩ | ⟨j, fy, ry⟩
  all_goals first
    | exact Or.inr ⟨i, j⟩
    | exact Or.inl (ex.trans ey.symm)
    | (exfalso; rw [tx, ty] at h; revert h; decide)
    | (exfalso; refine num_not5 j fy ry ?_; rw [← h, tx]; decide)
    | (exfalso; refine num_not5 i fx rx ?_; rw [h, ty]; decide)
    | (refine Or.inl ?_
       have a := (all_facts (s := ⟨(textF y).toArray⟩) hx i fx rx h.symm).2.2.2.2
       have b := (all_facts (s := ⟨(textF y).toArray⟩) hy j fy ry rfl).2.2.2.2
       exact a.symm.trans b)
theorem like_inj {x y : Nat} (hx : x < 18446744073709551616) (hy : y < 18446744073709551616) (h : textF x = textF y) : likeB (canonF y) x = true := by
  rw [canon_eq]
  rcases text_inj hx hy h with rfl | ⟨i, j⟩
  · by_cases i : isn x
    · rw [if_pos i]; exact like_nn nanW_isn i
    · rw [if_neg i]; exact like_refl x
  · rw [if_pos j]; exact like_nn nanW_isn i
set_option maxRecDepth 100000 in
set_option maxHeartbeats 2000000 in
theorem BitsTexts_law (x : Nat) (hx : x < 18446744073709551616) (s : ByteArray) (hz : s.size ≤ 281474976710656) (w : World) (ht : TabE w) :
    Calls Tryd.prog 3 #[.int .u64 x, .string s] w fun e w' => e = .returned (.bool true) ∧ Below w.heap.size w w' := by
  have h12 := ext_from
  have e1 : (textF x == textF x) = true := beq_iff_eq.2 rfl
  have HT := Lib.hid ht
  have K3 := Lib.hid (fun w ht => Text_c x hx w ht)
  have K4 := Lib.hid (fun w ht => rText_c x hx w ht)
  have K2 := Lib.hid (fun w ht => rRead_c s (by omega) w ht)
  by_cases hs : ∃ y, y < 18446744073709551616 ∧ s.data.toList = textF y
  · obtain ⟨y, hy, es⟩ := hs
    have K1 : Hid (∀ w, TabR w → Calls Tryd.prog 5 #[.string s] w fun e w' => e = .returned (.tuple #[.float .f64 (canonF y), .int .i64 0]) ∧ Below w.heap.size w w') := Lib.hid fun w ht => by rw [mk_ba s, es]; exact Read_text y hy w ht
    have HL : Hid (∀ x', x' < 18446744073709551616 → textF x' = s.data.toList → likeB (canonF y) x' = true) := Lib.hid fun x' hx' h => like_inj hx' hy (h.trans es)
    have HN : Hid (¬ NoT s) := Lib.hid fun c => c y hy es
    clear hx hz ht es hy
    generalize canonF y = b at *
    go_enter Tryd.func3, Tryd.ntmps3
    go_wp2_with fail
    refine (K1.out _ HT.out.1).mono ?_
    rintro e w1 ⟨rfl, hb1⟩
    have H1 := Lib.hid hb1
    clear hb1
    go_wp2_with fail
    refine (K2.out _ (HT.out.below H1.out).1.1).mono ?_
    rintro e w2 ⟨hr, hb⟩
    have H2 := Lib.hid (H1.out.trans (hb.mono H1.out.size))
    clear hb
    rcases hr with ⟨x', hx', tx', rfl⟩ | ⟨hn, rfl⟩
    · have KL := Lib.hid (fun w => rLike_c b x' w)
      rw [HL.out x' hx' tx'] at KL
      clear hx' tx'
      go_wp2_with fail
      go_at_call 7
      refine (K3.out _ (HT.out.below H2.out).1.1).mono ?_
      rintro e w3 ⟨rfl, hb⟩
      have H3 := Lib.hid (H2.out.trans (hb.mono H2.out.size))
      clear hb
      go_wp2_with fail
      go_at_call 8
      refine (K4.out _ (HT.out.below H3.out).1.1).mono ?_
      rintro e w4 ⟨rfl, hb⟩
      have H4 := Lib.hid (H3.out.trans (hb.mono H3.out.size))
      clear hb
      go_wp2_with fail
      go_at_call 9
      refine (KL.out _).mono ?_
      rintro e w5 ⟨rfl, rfl⟩
      go_wp2_with fail
      go_at_call 10
      refine (lives_c _ (HT.out.below H4.out).1).mono ?_
      rintro e w6 ⟨rfl, hb⟩
      have H6 := Lib.hid (H4.out.trans (hb.mono H4.out.size))
      clear hb
      go_wp2_with fail
      go_ret
      exact ⟨rfl, H6.out⟩
    · exact absurd hn HN.out
  · have hno : NoT s := fun y hy c => hs ⟨y, hy, c⟩
    have K1 : Hid (∀ w, TabE w → Calls Tryd.prog 5 #[.string s] w fun e w' => e = .returned (.tuple #[.float .f64 0, .int .i64 10]) ∧ Below w.heap.size w w') := Lib.hid fun w ht => Read_no s hz hno w ht
    have HN := Lib.hid hno
    have KL := Lib.hid (fun w => rLike_c 0 0 w)
    rw [like_refl 0] at KL
    clear hx hz ht hs hno
    go_enter Tryd.func3, Tryd.ntmps3
    go_wp2_with fail
    refine (K1.out _ HT.out).mono ?_
    rintro e w1 ⟨rfl, hb1⟩
    have H1 := Lib.hid hb1
    clear hb1
    go_wp2_with fail
    refine (K2.out _ (HT.out.below H1.out).1.1).mono ?_
    rintro e w2 ⟨hr, hb⟩
    have H2 := Lib.hid (H1.out.trans (hb.mono H1.out.size))
    clear hb
    rcases hr with ⟨x', hx', tx', rfl⟩ | ⟨hn, rfl⟩
    · exact absurd tx'.symm (HN.out x' hx')
    · go_wp2_with fail
      go_at_call 7
      refine (K3.out _ (HT.out.below H2.out).1.1).mono ?_
      rintro e w3 ⟨rfl, hb⟩
      have H3 := Lib.hid (H2.out.trans (hb.mono H2.out.size))
      clear hb
      go_wp2_with fail
      go_at_call 8
      refine (K4.out _ (HT.out.below H3.out).1.1).mono ?_
      rintro e w4 ⟨rfl, hb⟩
      have H4 := Lib.hid (H3.out.trans (hb.mono H3.out.size))
      clear hb
      go_wp2_with fail
      go_at_call 9
      refine (KL.out _).mono ?_
      rintro e w5 ⟨rfl, rfl⟩
      go_wp2_with fail
      go_at_call 10
      refine (lives_c _ (HT.out.below H4.out).1).mono ?_
      rintro e w6 ⟨rfl, hb⟩
      have H6 := Lib.hid (H4.out.trans (hb.mono H4.out.size))
      clear hb
      go_wp2_with fail
      go_ret
      exact ⟨rfl, H6.out⟩
end Go.Proofs.YtbmfbmepgcbhfaaDoor
