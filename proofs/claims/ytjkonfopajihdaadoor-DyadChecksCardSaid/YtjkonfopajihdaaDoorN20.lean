/- Contracts of package nat: Sub, Mul. -/
import Derived.Test.YtjkonfopajihdaaDoorN19
set_option linter.unusedSimpArgs false
set_option linter.unusedVariables false
namespace Go.Proofs.YtjkonfopajihdaaDoor
open Go Go.RowKit Nt

theorem fits_le {m n : Nat} (h : fits n) (hm : m ≤ n) : fits m := by unfold fits at *; exact Nat.le_trans (nd_mono (by omega) hm) h
theorem natS_empty {n : Nat} (h : n = 0) : (natS n).toList = [] := by subst h; rw [natS_zero, ba_toList]
theorem natS_full {n : Nat} (h : n ≠ 0) : ¬ (natS n).toList = [] := fun c => by
  rw [ba_toList] at c
  have h1 : (natS n).size = 0 := by show (natS n).data.size = 0; rw [← Array.length_toList, c]; rfl
  rw [natS_size, nd_eq_zero (by omega)] at h1; exact h h1
theorem natS_full2 {n : Nat} (h : n ≠ 0) : (natS n).toList.isEmpty = false := by
  have := natS_full h
  cases h2 : (natS n).toList with
  | nil => exact absurd h2 this
  | cons x l => rfl
theorem cmp_neg {a b : Nat} (h : a < b) : decide (cmpN a b < 0) = true := by rw [cmpN_lt h]; rfl
theorem cmp_pos {a b : Nat} (h : b ≤ a) : decide (cmpN a b < 0) = false := by
  rcases Nat.eq_or_lt_of_le h with h1 | h1
  · subst h1; rw [cmpN_eq]; rfl
  · rw [cmpN_gt h1]; rfl
/-- Is the product of two too long by the lengths alone? -/
theorem mul_long {a b : Nat} (ha : a ≠ 0) (hb : b ≠ 0) : nd 256 a - 1 + (nd 256 b - 1) < nd 256 (a * b) := by
  have h1 : nd 256 a ≠ 0 := fun c => ha ((nd_eq_zero (by omega)).1 c)
  have h2 : nd 256 b ≠ 0 := fun c => hb ((nd_eq_zero (by omega)).1 c)
  refine (pow_le_iff (by omega) _ _).1 ?_
  rw [Nat.pow_add]
  exact Nat.mul_le_mul ((pow_le_iff (by omega) _ _).2 (by omega)) ((pow_le_iff (by omega) _ _).2 (by omega))
theorem small_prod {x y : Nat} (h : x * y < 18446744073709551616) : x * y / 18446744073709551616 = 0 ∧ x * y % 18446744073709551616 = x * y := ⟨Nat.div_eq_of_lt h, Nat.mod_eq_of_lt h⟩
@[irreducible] def longI (z : Int) : Bool := decide (131072 < z)
@[local go_sem] theorem gt_longI (z : Int) : decide ((131072 : Int) < z) = longI z := by unfold longI; rfl
set_option maxRecDepth 100000 in
theorem NMul_no (s t : ByteArray) (w : World) (h : ¬ (May s ∧ May t)) :
    Calls Tryd.prog 86 #[.string s, .string t] w (StrPost ⟨#[]⟩ 2 w) := by
  have hm := may2_no h
  go_enter Tryd.func86, Tryd.ntmps86
  go_wp2_with (first | (go_at_call 97; refine (all_c _ 2 [s, t] _ (by simp) (strs_new w 22 [s, t])).mono ?_; rintro e w' ⟨rfl, rfl⟩))
  go_ret2
  exact ⟨rfl, (Below.refl _ _).alloc (Nat.le_refl _) _⟩
set_option maxRecDepth 100000 in
theorem NMul_small (a b : Nat) (w : World) (ha : fits a) (hb : fits b) (h1 : brB a = true) (h2 : brB b = true) (h3 : a * b < 18446744073709551616) :
    Calls Tryd.prog 86 #[.string (natS a), .string (natS b)] w (StrPost (natS (a * b)) 0 w) := by
  have hm := may2 ha hb
  have e1 := brN_yes (brB_true h1)
  have e2 := brN_yes (brB_true h2)
  have hmul := fun w => Tryd.bits_Mul64 a b (br_lt.1 (brB_true h1)) (br_lt.1 (brB_true h2)) w
  obtain ⟨q1, q2⟩ := small_prod h3
  rw [q1, q2] at hmul
  have HM := Lib.hid hmul
  have HP := Lib.hid h3
  clear hmul q1 q2 h3
  go_enter Tryd.func86, Tryd.ntmps86
  go_wp2_with (first
    | (go_at_call 97; refine (all_c _ 2 [natS a, natS b] _ (by simp) (strs_new w 22 [natS a, natS b])).mono ?_; rintro e w' ⟨rfl, rfl⟩)
    | (go_at_call 122; refine (brief_c _ _ (by assumption)).mono ?_; rintro e w' ⟨rfl, rfl⟩)
    | (go_at_call 123; refine (HM.out _).mono ?_; rintro e w' ⟨rfl, rfl⟩)
    | (go_at_call 62; refine (Of_n _ _ HP.out).mono ?_; rintro e w' ⟨rfl, hb2⟩))
  go_ret2
  exact ⟨rfl, ((Below.refl _ _).alloc (Nat.le_refl _) _).trans (hb2.mono (by simp))⟩
theorem mul_cases (a b : Nat) : (brB a = true ∧ brB b = true ∧ a * b < 18446744073709551616) ∨ brB a = false ∨ (brB a = true ∧ brB b = false) ∨ (brB a = true ∧ brB b = true ∧ ¬ a * b < 18446744073709551616) := by
  by_cases h3 : a * b < 18446744073709551616 <;> cases brB a <;> cases brB b <;> simp [h3]
theorem big_prod {a b : Nat} (h1 : brB a = true) (h2 : brB b = true) (h : ¬ a * b < 18446744073709551616) : ∃ hi lo : Nat, ((hi : Int) == 0) = false ∧
    ∀ w, Calls Tryd.prog 123 #[.int .u64 (a : Nat), .int .u64 (b : Nat)] w fun e w' => e = .returned (.tuple #[.int .u64 (hi : Nat), .int .u64 (lo : Nat)]) ∧ w' = w :=
  ⟨_, _, eqz_false (by have := Nat.div_pos (a := a * b) (b := 18446744073709551616) (by omega) (by omega); omega), fun w => Tryd.bits_Mul64 a b (br_lt.1 (brB_true h1)) (br_lt.1 (brB_true h2)) w⟩
/-- The test of the lengths. -/
theorem mul_test (a b : Nat) (ha : fits a) (hb : fits b) : (a = 0 ∨ b = 0 ∨ longI (8 * ((nd 256 a : Int) - 1) + 8 * ((nd 256 b : Int) - 1)) = false) ∨ (a ≠ 0 ∧ b ≠ 0 ∧ longI (8 * ((nd 256 a : Int) - 1) + 8 * ((nd 256 b : Int) - 1)) = true ∧ ¬ fits (a * b)) := by
  by_cases h1 : a = 0
  · exact Or.inl (Or.inl h1)
  by_cases h2 : b = 0
  · exact Or.inl (Or.inr (Or.inl h2))
  by_cases h3 : 131072 < 8 * ((nd 256 a : Int) - 1) + 8 * ((nd 256 b : Int) - 1)
  · refine Or.inr ⟨h1, h2, by unfold longI; exact decide_eq_true h3, fun c => ?_⟩
    have := mul_long h1 h2
    unfold fits at c; omega
  · exact Or.inl (Or.inr (Or.inr (by unfold longI; exact decide_eq_false h3)))
set_option maxRecDepth 100000 in
set_option maxHeartbeats 2000000 in
theorem NMul_c (a b : Nat) (w : World) (ha : fits a) (hb : fits b) :
    Calls Tryd.prog 86 #[.string (natS a), .string (natS b)] w (StrPost (resS (a * b)) (resE (a * b)) w) := by
  have hm := may2 ha hb
  have hza := natS_size a
  have hzb := natS_size b
  have hna : nd 256 a ≤ 16384 := ha
  have hnb : nd 256 b ≤ 16384 := hb
  have hwa := fits_words ha
  have hwb := fits_words hb
  have hwm := mul_words a b
  rcases mul_cases a b with ⟨h1, h2, h3⟩ | h | ⟨h1, h2⟩ | ⟨h1, h2, h3⟩
  case' inl =>
    have hf : fits (a * b) := by have := br_lt.2 h3; unfold fits; omega
    rw [resS_ok hf, resE_ok hf]
    exact NMul_small a b w ha hb h1 h2 h3
  case' inr.inl =>
    go_enter Tryd.func86, Tryd.ntmps86
    go_upto_region 10 with (first
      | (go_at_call 97; refine (all_c _ 2 [natS a, natS b] _ (by simp) (strs_new w 22 [natS a, natS b])).mono ?_; rintro e w' ⟨rfl, rfl⟩)
      | (go_at_call 122; refine (brief_c _ _ (by assumption)).mono ?_; rintro e w' ⟨rfl, rfl⟩))
  case' inr.inr.inl =>
    go_enter Tryd.func86, Tryd.ntmps86
    go_upto_region 10 with (first
      | (go_at_call 97; refine (all_c _ 2 [natS a, natS b] _ (by simp) (strs_new w 22 [natS a, natS b])).mono ?_; rintro e w' ⟨rfl, rfl⟩)
      | (go_at_call 122; refine (brief_c _ _ (by assumption)).mono ?_; rintro e w' ⟨rfl, rfl⟩))
  case' inr.inr.inr =>
    have e1 := brN_yes (brB_true h1)
    have e2 := brN_yes (brB_true h2)
    obtain ⟨hi, lo, hz, hmul⟩ := big_prod h1 h2 h3
    have HM := Lib.hid hmul
    clear hmul h3
    go_enter Tryd.func86, Tryd.ntmps86
    go_upto_region 10 with (first
      | (go_at_call 97; refine (all_c _ 2 [natS a, natS b] _ (by simp) (strs_new w 22 [natS a, natS b])).mono ?_; rintro e w' ⟨rfl, rfl⟩)
      | (go_at_call 122; refine (brief_c _ _ (by assumption)).mono ?_; rintro e w' ⟨rfl, rfl⟩)
      | (go_at_call 123; refine (HM.out _).mono ?_; rintro e w' ⟨rfl, rfl⟩))
  all_goals
    have hbw : Below w.heap.size w (w.alloc (.cells #[.string (natS a), .string (natS b)] 22)) := (Below.refl _ _).alloc (Nat.le_refl _) _
    generalize w.alloc (.cells #[.string (natS a), .string (natS b)] 22) = w1 at *
    rcases mul_test a b ha hb with h0 | ⟨h1, h2, h3, h4⟩
    · rcases h0 with h0 | h0 | h0
      case' inl => have hE := natS_empty h0
      case' inr.inl => have hE := natS_empty h0
      all_goals
        have HO := Lib.hid h0
        have HHm := Lib.hid hwm
        clear h0 hwm
      case' inr.inr => have hE := HO.out
      all_goals
        go_upto_region 13 with fail
      all_goals
        go_wp2_with fail
        refine (words_c a _ ha).mono ?_
        intro e w2 hp
        obtain ⟨A1, c1, rfl, hc1, hr1, hb2⟩ := hp.get
        have HR1 := Lib.hid hr1
        clear hr1 hp
        go_wp2_with fail
        refine (words_c b _ hb).mono ?_
        intro e w3 hp
        obtain ⟨A2, c2, rfl, hc2, hr2, hb3⟩ := hp.get
        have HR2 := Lib.hid hr2
        clear hr2 hp
        go_wp2_with fail
        refine (Mul_c A1 A2 c1 c2 a b w3.heap.size w3 (by omega) ((HR1.out.below hb3).more hb3.size) HR2.out (Nat.le_refl _)).mono ?_
        intro e w4 hp
        obtain ⟨A3, c3, rfl, hc3, hr3, hb4⟩ := hp.get
        have HR3 := Lib.hid hr3
        clear hr3 hp
        go_wp2_with fail
        refine (made_c A3 c3 (a * b) w4.heap.size w4 (by have := HHm.out; omega) HR3.out (Nat.le_refl _)).mono ?_
        rintro e w5 ⟨rfl, hb5⟩
        go_wp2_with fail
        go_ret2
        exact ⟨rfl, hbw.trans ((hb2.mono hbw.size).trans ((hb3.mono (Nat.le_trans hbw.size hb2.size)).trans ((hb4.mono (Nat.le_trans hbw.size (Nat.le_trans hb2.size hb3.size))).trans (hb5.mono (Nat.le_trans hbw.size (Nat.le_trans hb2.size (Nat.le_trans hb3.size hb4.size)))))))⟩
    · have n1 := natS_full h1
      have n2 := natS_full h2
      have m1 := natS_full2 h1
      have m2 := natS_full2 h2
      have R1 := Lib.hid (resS_no h4)
      have R2 := Lib.hid (resE_no h4)
      go_wp2_with fail
      go_ret2
      exact ⟨by rw [R1.out, R2.out]; rfl, hbw⟩
end Go.Proofs.YtjkonfopajihdaaDoor
