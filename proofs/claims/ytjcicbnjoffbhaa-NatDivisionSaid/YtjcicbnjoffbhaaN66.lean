/- The law NatDivision. -/
import Derived.Test.YtjcicbnjoffbhaaN65
import Derived.Test.YtjcicbnjoffbhaaN35
import Derived.Test.YtjcicbnjoffbhaaN47
set_option linter.unusedSimpArgs false
set_option linter.unusedVariables false
namespace Go.Proofs.Ytjcicbnjoffbhaa
open Go Go.RowKit Nt

set_option maxRecDepth 100000 in
theorem NDiv_zero' (a : Nat) (w : World) (ha : fits a) :
    Calls Try.prog 43 #[.string (natS a), .string ⟨#[]⟩] w (Str2Post ⟨#[]⟩ ⟨#[]⟩ 21 w) := by
  have hm : _ := may2 ha (show fits 0 by unfold fits; rw [nd_zero]; omega)
  rw [natS_zero] at hm
  go_enter Try.func43, Try.ntmps43
  go_wp2_with (first | (go_at_call 60; refine (all_c _ 2 [natS a, ⟨#[]⟩] _ (by simp) (strs_new w 22 [natS a, ⟨#[]⟩])).mono ?_; rintro e w' ⟨rfl, rfl⟩))
  have hfin : Below w.heap.size w (w.alloc (.cells #[.string (natS a), .string ⟨#[]⟩] 22)) := (Below.refl _ _).alloc (Nat.le_refl _) _
  first
    | (go_ret3; exact ⟨rfl, hfin⟩)
    | exact bodyPost_ret (v := .tuple #[.string ⟨#[]⟩, .string ⟨#[]⟩, .int .i64 21]) (by simp [results, Try.results43, go_sem]) rfl ⟨rfl, hfin⟩
theorem mul_all (a b c : Nat) (ha : fits a) (hb : fits b) (hc : fits c) (h : a * b = c) : ∀ w : World, Calls Try.prog 41 #[.string (natS a), .string (natS b)] w (StrPost (natS c) 0 w) := by
  intro w
  have := NMul_c a b w ha hb
  rw [h, resS_ok hc, resE_ok hc] at this
  exact this
theorem add_all (a b c : Nat) (ha : fits a) (hb : fits b) (hc : fits c) (h : a + b = c) : ∀ w : World, Calls Try.prog 34 #[.string (natS a), .string (natS b)] w (StrPost (natS c) 0 w) := by
  intro w
  have := NAdd_c a b w ha hb
  rw [h, resS_ok hc, resE_ok hc] at this
  exact this
theorem shift_one (a c : Nat) (ha : fits a) (hc : fits c) (h : a * 2 = c) : ∀ w : World, Calls Try.prog 45 #[.string (natS a), .int .i64 1] w (StrPost (natS c) 0 w) := by
  intro w
  have := Shift_all a 1 w ha (by omega)
  rw [Nat.pow_one, h, resS_ok hc, resE_ok hc] at this
  exact this
theorem cmp_all (a b : Nat) (j : Int) (ha : fits a) (hb : fits b) (h : cmpN a b = j) : ∀ w : World, Calls Try.prog 32 #[.string (natS a), .string (natS b)] w (IntPost j 0 w) := by
  intro w
  have := NCmp_c a b w ha hb
  rw [h] at this
  exact this
theorem fits_double {r a : Nat} (h : r ≤ a) (ha : nd 256 a ≤ 4000) : fits (r * 2) := by
  unfold fits
  have h1 : nd 256 (r * 2) ≤ nd 256 r + 1 := by
    refine nd_le (by omega) ?_
    have h1 := lt_nd (b := 256) (n := r) (by omega)
    rw [Nat.pow_succ]; omega
  have := nd_mono (b := 256) (by omega) h
  omega
set_option maxRecDepth 100000 in
set_option maxHeartbeats 2000000 in
theorem division_walk (a b q r p : Nat) (hb0 : b ≠ 0) (w : World)
    (HR : ∀ w : World, Calls Try.prog 22 #[.slice (some ⟨w.heap.size, 0, none⟩) 2 2] (w.alloc (.cells #[.string (natS a), .string (natS b)] 22)) (fun e w' => e = .returned (.bool false) ∧ Below w.heap.size w w'))
    (H0 : ∀ w : World, Calls Try.prog 43 #[.string (natS a), .string (natS b)] w (Str2Post (natS q) (natS r) 0 w))
    (H1 : ∀ w : World, Calls Try.prog 41 #[.string (natS q), .string (natS b)] w (StrPost (natS p) 0 w))
    (H2 : ∀ w : World, Calls Try.prog 34 #[.string (natS p), .string (natS r)] w (StrPost (natS a) 0 w))
    (H3 : ∀ w : World, Calls Try.prog 32 #[.string (natS r), .string (natS b)] w (IntPost (-1) 0 w))
    (H4 : nd 256 a ≤ 4000 → ∀ w : World, Calls Try.prog 51 #[.string (natS a)] w (fun e w' => ∃ r, IsRoot a r ∧ Str2Post (natS r) (natS (a - r * r)) 0 w e w'))
    (H5 : ∀ x, IsRoot a x → fits x ∧ fits (x * x) ∧ fits (a - x * x) ∧ (∀ w : World, Calls Try.prog 41 #[.string (natS x), .string (natS x)] w (StrPost (natS (x * x)) 0 w)) ∧ (∀ w : World, Calls Try.prog 34 #[.string (natS (x * x)), .string (natS (a - x * x))] w (StrPost (natS a) 0 w)))
    (H6 : nd 256 a ≤ 4000 → ∀ x, IsRoot a x → (∀ w : World, Calls Try.prog 45 #[.string (natS x), .int .i64 1] w (StrPost (natS (x * 2)) 0 w)) ∧ ∃ j : Int, (j = -1 ∨ j = 0) ∧ (∀ w : World, Calls Try.prog 32 #[.string (natS (a - x * x)), .string (natS (x * 2))] w (IntPost j 0 w))) :
    Calls Try.prog 15 #[.string (natS a), .string (natS b)] w fun e w' => e = .returned (.bool true) ∧ Below w.heap.size w w' := by
  have hsa := natS_size a
  have hE := natS_full hb0
  have hE2 := natS_full2 hb0
  have KR := Lib.hid HR
  have K0 := Lib.hid H0
  have K1 := Lib.hid H1
  have K2 := Lib.hid H2
  have K3 := Lib.hid H3
  have K4 := Lib.hid H4
  have K5 := Lib.hid H5
  have K6 := Lib.hid H6
  have HB0 := Lib.hid hb0
  clear HR H0 H1 H2 H3 H4 H5 H6 hb0
  obtain ⟨A, hA⟩ : ∃ A, A = nd 256 a := ⟨_, rfl⟩
  have HA := Lib.hid hA
  rw [← hA] at hsa
  clear hA
  by_cases h1 : 4000 < A
  · go_enter Try.func15, Try.ntmps15
    go_wp2_with fail
    refine (KR.out _).mono ?_
    rintro e w0 ⟨rfl, hb0⟩
    go_wp2_with fail
    refine (K0.out _).mono ?_
    rintro e w1 ⟨rfl, hb1⟩
    go_wp2_with fail
    refine (K1.out _).mono ?_
    rintro e w2 ⟨rfl, hb2⟩
    go_wp2_with fail
    refine (K2.out _).mono ?_
    rintro e w3 ⟨rfl, hb3⟩
    go_wp2_with fail
    refine (K3.out _).mono ?_
    rintro e w4 ⟨rfl, hb4⟩
    go_wp2_with fail
    refine (awake_c _).mono ?_
    rintro e w5 ⟨rfl, hb5⟩
    go_wp2_with fail
    go_ret
    exact ⟨rfl, below_chain hb0 (below_chain hb1 (below_chain hb2 (below_chain hb3 (below_chain hb4 hb5))))⟩
  · have h1' : ¬ (4000 : Int) < (A : Int) := by omega
    have H1 := Lib.hid h1
    go_enter Try.func15, Try.ntmps15
    go_wp2_with fail
    refine (KR.out _).mono ?_
    rintro e w0 ⟨rfl, hb0⟩
    go_wp2_with fail
    refine (K0.out _).mono ?_
    rintro e w1 ⟨rfl, hb1⟩
    go_wp2_with fail
    refine (K1.out _).mono ?_
    rintro e w2 ⟨rfl, hb2⟩
    go_wp2_with fail
    refine (K2.out _).mono ?_
    rintro e w3 ⟨rfl, hb3⟩
    go_wp2_with fail
    refine (K3.out _).mono ?_
    rintro e w4 ⟨rfl, hb4⟩
    have hbw := below_chain hb0 (below_chain hb1 (below_chain hb2 (below_chain hb3 hb4)))
    clear hb0 hb1 hb2 hb3 hb4
    go_wp2_with fail
    refine (K4.out (by have := H1.out; have := HA.out; omega) _).mono ?_
    rintro e w5 ⟨x, hx, rfl, hb5⟩
    obtain ⟨-, -, -, k7, k8⟩ := K5.out x hx
    obtain ⟨k9, j, hj, k10⟩ := K6.out (by have := H1.out; have := HA.out; omega) x hx
    have K7 := Lib.hid k7
    have K8 := Lib.hid k8
    have K9 := Lib.hid k9
    have K10 := Lib.hid k10
    clear k7 k8 k9 k10 hx
    rcases hj with rfl | rfl
    all_goals
      go_wp2_with fail
      refine (K7.out _).mono ?_
      rintro e w7 ⟨rfl, hb7⟩
      go_wp2_with fail
      refine (K8.out _).mono ?_
      rintro e w8 ⟨rfl, hb8⟩
      go_wp2_with fail
      refine (K9.out _).mono ?_
      rintro e w9 ⟨rfl, hb9⟩
      go_wp2_with fail
      refine (K10.out _).mono ?_
      rintro e w10 ⟨rfl, hb10⟩
      go_wp2_with fail
      refine (awake_c _).mono ?_
      rintro e w11 ⟨rfl, hb11⟩
      go_wp2_with fail
      go_ret
      exact ⟨rfl, below_chain hbw (below_chain hb5 (below_chain hb7 (below_chain hb8 (below_chain hb9 (below_chain hb10 hb11)))))⟩
set_option maxRecDepth 100000 in
set_option maxHeartbeats 1000000 in
theorem NatDivision_law (s t : ByteArray) (hs : s.size ≤ maxLen) (ht : t.size ≤ maxLen) (w : World) :
    Calls Try.prog 15 #[.string s, .string t] w fun e w' => e = .returned (.bool true) ∧ Below w.heap.size w w' := by
  unfold maxLen at hs ht
  have hr := fun w => refused2 s t hs ht w
  by_cases hm : May s ∧ May t
  · rw [refB2_no hm.1 hm.2] at hr
    obtain ⟨a, ha, rfl⟩ := may_num hm.1
    obtain ⟨b, hb, rfl⟩ := may_num hm.2
    by_cases hb0 : b = 0
    · subst hb0
      have KM := Lib.hid (fun w => NDiv_zero' a w ha)
      have HRF := Lib.hid hr
      rw [natS_zero] at HRF ⊢
      clear hr hm hs ht
      go_enter Try.func15, Try.ntmps15
      go_wp2_with fail
      refine (HRF.out _).mono ?_
      rintro e w1 ⟨rfl, hb1⟩
      go_wp2_with fail
      refine (KM.out _).mono ?_
      rintro e w2 ⟨rfl, hb2⟩
      go_wp2_with fail
      refine (awake_c _).mono ?_
      rintro e w4 ⟨rfl, hb4⟩
      go_wp2_with fail
      go_ret
      exact ⟨rfl, below_chain hb1 (below_chain hb2 hb4)⟩
    · have hq := fits_le ha (Nat.div_le_self a b)
      have hrr := fits_le ha (Nat.mod_le a b)
      have hdm : a / b * b + a % b = a := by rw [Nat.mul_comm]; exact Nat.div_add_mod a b
      have hp := fits_le ha (show a / b * b ≤ a by omega)
      refine division_walk a b (a / b) (a % b) (a / b * b) hb0 w hr (fun w => NDiv_c a b w ha hb hb0) (mul_all _ _ _ hq hb hp rfl) (add_all _ _ _ hp hrr ha hdm)
        (cmp_all _ _ _ hrr hb (cmpN_lt (Nat.mod_lt _ (Nat.pos_of_ne_zero hb0)))) (fun _ w => NRoot_c a w ha) ?_ ?_
      · intro x hx
        have h1 := fits_le ha (root_le hx)
        have h2 := fits_le ha hx.1
        have h3 := fits_le ha (Nat.sub_le a (x * x))
        exact ⟨h1, h2, h3, mul_all _ _ _ h1 h1 h2 rfl, add_all _ _ _ h2 h3 ha (by have := hx.1; omega)⟩
      · intro h4 x hx
        have h1 := fits_le ha (root_le hx)
        have h3 := fits_le ha (Nat.sub_le a (x * x))
        have h5 := fits_double (root_le hx) h4
        have h6 : a - x * x ≤ x * 2 := by
          have e1 := hx.1
          have e2 := hx.2
          have e3 : (x + 1) * (x + 1) = x * x + (x * 2 + 1) := by grind
          rw [e3] at e2
          omega
        refine ⟨shift_one _ _ h1 h5 rfl, ?_⟩
        rcases Nat.lt_or_ge (a - x * x) (x * 2) with h | h
        · exact ⟨-1, Or.inl rfl, cmp_all _ _ _ h3 h5 (cmpN_lt h)⟩
        · exact ⟨0, Or.inr rfl, cmp_all _ _ _ h3 h5 (by rw [show a - x * x = x * 2 by omega]; exact cmpN_eq _)⟩
  · rw [refB2_yes hm] at hr
    have HRF := Lib.hid hr
    clear hr hm hs ht
    go_enter Try.func15, Try.ntmps15
    go_wp2_with fail
    refine (HRF.out _).mono ?_
    rintro e w1 ⟨rfl, hb1⟩
    go_wp2_with fail
    refine (awake_c _).mono ?_
    rintro e w4 ⟨rfl, hb4⟩
    go_wp2_with fail
    go_ret
    exact ⟨rfl, below_chain hb1 hb4⟩
end Go.Proofs.Ytjcicbnjoffbhaa
