/- Laws of layer 5: CplxOrder. -/
import Derived.Test.YtcoddacbmjlcnaaM2
set_option linter.unusedSimpArgs false
set_option linter.unusedVariables false
namespace Go.Proofs.Ytcoddacbmjlcnaa
open Go Go.RowKit Ff
attribute [local go_sem] f_lt f_gt f_eq f_ne run_add run_sub run_mul run_quo k_inf k_nan finC_ne

theorem place_inj {x y : Nat} (hx : x < 18446744073709551616) (hy : y < 18446744073709551616) : place x = place y ↔ likeB x y = true := by
  rw [like_iff]
  by_cases i : isn x <;> by_cases j : isn y
  · rw [place_nan i, place_nan j]; exact ⟨fun _ => Or.inl ⟨i, j⟩, fun _ => rfl⟩
  · have : place y ≠ 18437736874454810626 := by
      cases s : sgn y
      · rw [place_pos j s]; unfold isn at j; omega
      · rw [place_neg j s]; unfold isn at j; omega
    rw [place_nan i]
    constructor
    · intro c; exact absurd c.symm this
    · rintro (⟨_, c⟩ | c)
      · exact absurd c j
      · subst c; exact absurd i j
  · have : place x ≠ 18437736874454810626 := by
      cases s : sgn x
      · rw [place_pos i s]; unfold isn at i; omega
      · rw [place_neg i s]; unfold isn at i; omega
    rw [place_nan j]
    constructor
    · intro c; exact absurd c this
    · rintro (⟨c, _⟩ | c)
      · exact absurd c i
      · subst c; exact absurd j i
  · constructor
    · intro c; right
      cases s : sgn x <;> cases t : sgn y
      · rw [place_pos i s, place_pos j t] at c; rw [← sgn_rung hx s, ← sgn_rung hy t]; omega
      · rw [place_pos i s, place_neg j t] at c; unfold isn at i j; omega
      · rw [place_neg i s, place_pos j t] at c; unfold isn at i j; omega
      · rw [place_neg i s, place_neg j t] at c
        have e1 := sgn_rung' hx s
        have e2 := sgn_rung' hy t
        rw [topped_eq] at e1 e2
        unfold isn at i j; omega
    · rintro (⟨c, _⟩ | c)
      · exact absurd c i
      · subst c; rfl
theorem ordN_anti (p q : Nat) : ordN p q = - ordN q p := by
  unfold ordN
  rcases Nat.lt_trichotomy p q with h | h | h
  · rw [if_pos h, if_neg (by omega), if_pos h]
  · rw [if_neg (by omega), if_neg (by omega), if_neg (by omega), if_neg (by omega)]; rfl
  · rw [if_neg (by omega), if_pos h, if_pos h]; rfl
theorem ordN_zero (p q : Nat) : ordN p q = 0 ↔ p = q := by
  unfold ordN
  rcases Nat.lt_trichotomy p q with h | h | h
  · rw [if_pos h]; omega
  · rw [if_neg (by omega), if_neg (by omega)]; omega
  · rw [if_neg (by omega), if_pos h]; omega
theorem ordN_pos (p q : Nat) : 0 < ordN p q ↔ q < p := by
  unfold ordN
  rcases Nat.lt_trichotomy p q with h | h | h
  · rw [if_pos h]; omega
  · rw [if_neg (by omega), if_neg (by omega)]; omega
  · rw [if_neg (by omega), if_pos h]; omega
theorem ord5_anti (a b c d : Nat) : ord5 a b c d = - ord5 c d a b := by
  unfold ord5
  by_cases h : place a = place c
  · rw [if_pos h, if_pos h.symm]; exact ordN_anti _ _
  · rw [if_neg h, if_neg (fun c => h c.symm)]; exact ordN_anti _ _
theorem ord5_bd (a b c d : Nat) : -1 ≤ ord5 a b c d ∧ ord5 a b c d ≤ 1 := by
  unfold ord5 ordN; repeat' split
  all_goals omega
theorem same_iff (a b c d : Nat) : sameB a b c d = true ↔ likeB a c = true ∧ likeB b d = true := by unfold sameB; rw [Bool.and_eq_true]
theorem ord5_zero {a b c d : Nat} (ha : a < 18446744073709551616) (hb : b < 18446744073709551616) (hc : c < 18446744073709551616) (hd : d < 18446744073709551616) : (ord5 a b c d == 0) = sameB a b c d := by
  rw [Bool.eq_iff_iff, beq_iff_eq, same_iff, ← place_inj ha hc, ← place_inj hb hd]
  unfold ord5
  by_cases h : place a = place c
  · rw [if_pos h, ordN_zero]; exact ⟨fun k => ⟨h, k⟩, fun k => k.2⟩
  · rw [if_neg h, ordN_zero]; exact ⟨fun k => absurd k h, fun k => absurd k.1 h⟩
theorem ord5_pos (a b c d : Nat) : 0 < ord5 a b c d ↔ place c < place a ∨ place a = place c ∧ place d < place b := by
  unfold ord5
  by_cases h : place a = place c
  · rw [if_pos h, ordN_pos]; omega
  · rw [if_neg h, ordN_pos]; omega
theorem ord5_trans {a b c d e f : Nat} (h1 : ¬ 0 < ord5 a b c d) (h2 : ¬ 0 < ord5 c d e f) : ¬ 0 < ord5 a b e f := by
  rw [ord5_pos] at h1 h2 ⊢; omega
@[irreducible] def ordGt (a b c d : Nat) : Bool := decide (0 < ord5 a b c d)
@[irreducible] def ordI (a b c d : Nat) : Int := ord5 a b c d
end Go.Proofs.Ytcoddacbmjlcnaa
