/- Contracts of package nat: Sum, Add, Sub, Mul. -/
import Derived.Test.YtjkonfopajihdaaDoorN17
set_option linter.unusedSimpArgs false
set_option linter.unusedVariables false
namespace Go.Proofs.YtjkonfopajihdaaDoor
open Go Go.RowKit Nt

theorem fits_words {n : Nat} (h : fits n) : nd W n ≤ 2048 := by
  unfold fits at h; rw [← words_bytes]; omega
theorem sum_words {a b : Nat} {m : Nat} (ha : nd W a ≤ m) (hb : nd W b ≤ m) : nd W (a + b) ≤ m + 1 := by
  refine nd_le W2 ?_
  have h1 := (lt_pow_iff W2 m a).2 ha
  have h2 := (lt_pow_iff W2 m b).2 hb
  rw [Nat.pow_succ]
  have h3 : 2 * W ^ m ≤ W ^ m * W := by rw [Nat.mul_comm]; exact Nat.mul_le_mul_left _ W2
  omega
theorem mul_words (a b : Nat) : nd W (a * b) ≤ nd W a + nd W b := by
  refine nd_le W2 ?_
  rw [Nat.pow_add]
  have h1 := lt_nd (n := a) W2
  have h2 := lt_nd (n := b) W2
  rcases Nat.eq_zero_or_pos b with h | h
  · subst h; rw [Nat.mul_zero]; exact Nat.mul_pos (Nat.pow_pos W0) (Nat.pow_pos W0)
  · exact Nat.lt_of_lt_of_le ((Nat.mul_lt_mul_right h).2 h1) (Nat.mul_le_mul_left _ (by omega))
/-- Do two brief numbers have a brief sum? -/
@[irreducible] def bsB (a b : Nat) : Bool := brB a && brB b && decide (a + b < 18446744073709551616)
@[irreducible] def bsS (a b : Nat) : ByteArray := if bsB a b = true then natS (a + b) else ⟨#[]⟩
theorem bsB_yes {a b : Nat} (h1 : brB a = true) (h2 : brB b = true) (h3 : a + b < 18446744073709551616) : bsB a b = true := by unfold bsB; rw [h1, h2, decide_eq_true h3]; rfl
theorem bsB_no1 {a b : Nat} (h : brB a = false) : bsB a b = false := by unfold bsB; rw [h]; rfl
theorem bsB_no2 {a b : Nat} (h : brB b = false) : bsB a b = false := by unfold bsB; rw [h, Bool.and_false]; rfl
theorem bsB_no3 {a b : Nat} (h : ¬ a + b < 18446744073709551616) : bsB a b = false := by unfold bsB; rw [decide_eq_false h, Bool.and_false]
theorem bsS_yes {a b : Nat} (h : bsB a b = true) : bsS a b = natS (a + b) := by unfold bsS; rw [if_pos h]
theorem bsS_no {a b : Nat} (h : bsB a b = false) : bsS a b = ⟨#[]⟩ := by unfold bsS; rw [if_neg (by rw [h]; decide)]
theorem brB_true {n : Nat} (h : brB n = true) : nd 256 n ≤ 8 := by unfold brB at h; exact of_decide_eq_true h
/-- A text and a yes or no. -/
def StrBPost (s : ByteArray) (b : Bool) (w : World) (e : Ending) (w' : World) : Prop := e = .returned (.tuple #[.string s, .bool b]) ∧ Below w.heap.size w w'
theorem add_some (a b : Nat) : ∃ s cc : Nat, ∀ w, (callFunc 120 #[.int .u64 (brN a : Nat), .int .u64 (brN b : Nat), .int .u64 0]).run Tryd.prog w = .ok (.value (.tuple #[.int .u64 (s : Nat), .int .u64 (cc : Nat)])) w :=
  ⟨_, _, fun w => Tryd.bits_Add64 (brN a) (brN b) 0 (by omega) w⟩
set_option maxRecDepth 100000 in
theorem briefSum_c (a b : Nat) (w : World) (ha : fits a) (hb : fits b) :
    Calls Tryd.prog 133 #[.string (natS a), .string (natS b)] w (StrBPost (bsS a b) (bsB a b) w) := by
  have hadd0 := fun w => Tryd.bits_Add64 (brN a) (brN b) 0 (by omega) w
  by_cases h1 : brB a = true
  · by_cases h2 : brB b = true
    · have e1 := brN_yes (brB_true h1)
      have e2 := brN_yes (brB_true h2)
      have l1 := br_lt.1 (brB_true h1)
      have l2 := br_lt.1 (brB_true h2)
      by_cases h3 : a + b < 18446744073709551616
      · have hadd : ∀ w, (callFunc 120 #[.int .u64 (brN a : Nat), .int .u64 (brN b : Nat), .int .u64 0]).run Tryd.prog w = .ok (.value (.tuple #[.int .u64 (a + b : Nat), .int .u64 0])) w := fun w => by
          have h := hadd0 w
          rw [show (brN a + brN b + 0) % 18446744073709551616 = a + b by omega, show (brN a + brN b + 0) / 18446744073709551616 = 0 by omega] at h
          exact h
        have HY := Lib.hid (bsB_yes h1 h2 h3)
        have H3 := Lib.hid h3
        clear hadd0 e1 e2 l1 l2 h3
        generalize hs : a + b = s at *
        have HS := Lib.hid hs
        clear hs
        go_enter Tryd.func133, Tryd.ntmps133
        go_wp2_with (first | simp only [hadd] | (go_at_call 122; refine (brief_c _ _ (by assumption)).mono ?_; rintro e w' ⟨rfl, rfl⟩) | (go_at_call 62; refine (Of_n s _ H3.out).mono ?_; rintro e w' ⟨rfl, hb'⟩))
        go_ret2
        exact ⟨by rw [bsS_yes HY.out, HY.out, HS.out]; rfl, hb'⟩
      · have hcar : ∀ w, (callFunc 120 #[.int .u64 (brN a : Nat), .int .u64 (brN b : Nat), .int .u64 0]).run Tryd.prog w = .ok (.value (.tuple #[.int .u64 ((a + b) % 18446744073709551616 : Nat), .int .u64 1])) w := fun w => by
          have h := hadd0 w
          rw [show (brN a + brN b + 0) % 18446744073709551616 = (a + b) % 18446744073709551616 by rw [e1, e2, Nat.add_zero], show (brN a + brN b + 0) / 18446744073709551616 = 1 by omega] at h
          exact h
        have HY := Lib.hid (bsB_no3 h3)
        clear hadd0 e1 e2 l1 l2 h3
        generalize hs : (a + b) % 18446744073709551616 = s at *
        clear hs
        go_enter Tryd.func133, Tryd.ntmps133
        go_wp2_with (first | simp only [hcar] | (go_at_call 122; refine (brief_c _ _ (by assumption)).mono ?_; rintro e w' ⟨rfl, rfl⟩))
        go_ret2
        exact ⟨by rw [bsS_no HY.out, HY.out]; rfl, Below.refl _ _⟩
    · have h2' : brB b = false := by simpa using h2
      have HY := Lib.hid (bsB_no2 (a := a) h2')
      obtain ⟨s, cc, hcar⟩ := add_some a b
      clear hadd0 h2
      go_enter Tryd.func133, Tryd.ntmps133
      go_wp2_with (first | simp only [hcar] | (go_at_call 122; refine (brief_c _ _ (by assumption)).mono ?_; rintro e w' ⟨rfl, rfl⟩))
      go_ret2
      exact ⟨by rw [bsS_no HY.out, HY.out]; rfl, Below.refl _ _⟩
  · have h1' : brB a = false := by simpa using h1
    have HY := Lib.hid (bsB_no1 (b := b) h1')
    obtain ⟨s, cc, hcar⟩ := add_some a b
    clear hadd0 h1
    go_enter Tryd.func133, Tryd.ntmps133
    go_wp2_with (first | simp only [hcar] | (go_at_call 122; refine (brief_c _ _ (by assumption)).mono ?_; rintro e w' ⟨rfl, rfl⟩))
    go_ret2
    exact ⟨by rw [bsS_no HY.out, HY.out]; rfl, Below.refl _ _⟩
end Go.Proofs.YtjkonfopajihdaaDoor
