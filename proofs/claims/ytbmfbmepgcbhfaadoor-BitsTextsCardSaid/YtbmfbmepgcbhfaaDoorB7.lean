/- Contracts: Place, Like, Order, At, Up, Down of both. -/
import Derived.Test.YtbmfbmepgcbhfaaDoorB6
set_option linter.unusedSimpArgs false
set_option linter.unusedVariables false
namespace Go.Proofs.YtbmfbmepgcbhfaaDoor
open Go Go.RowKit Ff

@[irreducible] def place (x : Nat) : Nat := if isn x then 18437736874454810626 else if sgn x then 9218868437227405312 - rung x else 9218868437227405313 + rung x
theorem place_nan {x : Nat} (h : isn x) : place x = 18437736874454810626 := by unfold place; rw [if_pos h]
theorem place_neg {x : Nat} (h : ¬ isn x) (s : sgn x = true) : place x = 9218868437227405312 - rung x := by unfold place; rw [if_neg h, if_pos s]
theorem place_pos {x : Nat} (h : ¬ isn x) (s : sgn x = false) : place x = 9218868437227405313 + rung x := by unfold place; rw [if_neg h, if_neg (by simp [s])]
theorem sgn_rung {x : Nat} (hx : x < 18446744073709551616) (s : sgn x = false) : rung x = x := by
  unfold sgn at s; rw [beq_eq_false_iff_ne] at s; unfold rung; omega
theorem sgn_rung' {x : Nat} (hx : x < 18446744073709551616) (s : sgn x = true) : x = topped (rung x) := by
  unfold sgn at s; rw [beq_iff_eq] at s; rw [topped_eq]; unfold rung; omega
theorem wrap_place_neg {x : Nat} (h : ¬ isn x) (s : sgn x = true) : IntKind.u64.wrap (9218868437227405312 - (rung x : Int)) = (place x : Int) := by
  rw [place_neg h s, IntKind.wrap_u64]; unfold isn at h; omega
theorem wrap_place_pos {x : Nat} (hx : x < 18446744073709551616) (h : ¬ isn x) (s : sgn x = false) : IntKind.u64.wrap (9218868437227405313 + (x : Int)) = (place x : Int) := by
  rw [place_pos h s, IntKind.wrap_u64, sgn_rung hx s]; unfold isn at h; rw [sgn_rung hx s] at h; omega
theorem wrap_place_pos' {x : Nat} (h : ¬ isn x) (s : sgn x = false) : IntKind.u64.wrap (9218868437227405313 + (rung x : Int)) = (place x : Int) := by
  rw [place_pos h s, IntKind.wrap_u64]; unfold isn at h; omega

theorem Place_c (x : Nat) (hx : x < 18446744073709551616) (w : World) :
    Calls Tryd.prog 43 #[.float .f64 x] w fun e w' => e = .returned (.int .u64 (place x)) ∧ w = w' := by
  have h44 := ext_bits
  have hb := and_not_top x hx
  have ha := top_and x hx
  have ht := top_ne x
  have hn := isn_ne x
  by_cases hi : isn x
  · have hp := Lib.hid (place_nan hi)
    go_enter Tryd.func43, Tryd.ntmps43
    go_wp2
    all_goals go_ret
    all_goals exact ⟨ret_int (by rw [hp.out]; rfl), rfl⟩
  · cases hs : sgn x
    · have hp := wrap_place_pos hx hi hs
      go_enter Tryd.func43, Tryd.ntmps43
      go_wp2
      all_goals go_ret
      all_goals exact ⟨rfl, rfl⟩
    · have hp := wrap_place_neg hi hs
      go_enter Tryd.func43, Tryd.ntmps43
      go_wp2
      all_goals go_ret
      all_goals exact ⟨rfl, rfl⟩

/-- The two orders. -/
def ordN (p q : Nat) : Int := if p < q then -1 else if q < p then 1 else 0
theorem Order_c (x y : Nat) (hx : x < 18446744073709551616) (hy : y < 18446744073709551616) (w : World) :
    Calls Tryd.prog 28 #[.float .f64 x, .float .f64 y] w fun e w' => e = .returned (.int .i64 (ordN (place x) (place y))) ∧ w = w' := by
  rcases Nat.lt_trichotomy (place x) (place y) with h | h | h
  · have e : ordN (place x) (place y) = -1 := by unfold ordN; rw [if_pos h]
    have H := Lib.hid e; clear e
    have h' : (place x : Int) < place y := by omega
    go_enter Tryd.func28, Tryd.ntmps28
    go_wp2_with (go_at_call 43; refine (Place_c _ (by assumption) _).mono ?_; rintro e w' ⟨rfl, rfl⟩)
    all_goals go_ret
    all_goals exact ⟨ret_int H.out.symm, rfl⟩
  · have e : ordN (place x) (place y) = 0 := by unfold ordN; rw [if_neg (by omega), if_neg (by omega)]
    have H := Lib.hid e; clear e
    go_enter Tryd.func28, Tryd.ntmps28
    go_wp2_with (go_at_call 43; refine (Place_c _ (by assumption) _).mono ?_; rintro e w' ⟨rfl, rfl⟩)
    all_goals go_ret
    all_goals exact ⟨ret_int H.out.symm, rfl⟩
  · have e : ordN (place x) (place y) = 1 := by unfold ordN; rw [if_neg (by omega), if_pos h]
    have H := Lib.hid e; clear e
    have h1 : ¬ (place x : Int) < place y := by omega
    have h2 : (place y : Int) < place x := by omega
    go_enter Tryd.func28, Tryd.ntmps28
    go_wp2_with (go_at_call 43; refine (Place_c _ (by assumption) _).mono ?_; rintro e w' ⟨rfl, rfl⟩)
    all_goals go_ret
    all_goals exact ⟨ret_int H.out.symm, rfl⟩
/-- Alike: two NaNs, or the same bits. -/
@[irreducible] def likeB (x y : Nat) : Bool := decide (isn x ∧ isn y ∨ x = y)
theorem like_nn {x y : Nat} (hi : isn x) (hj : isn y) : likeB x y = true := by unfold likeB; simp [hi, hj]
theorem like_eq {x y : Nat} (h : ¬ (isn x ∧ isn y)) : ((x : Int) == (y : Int)) = likeB x y := by
  unfold likeB; rw [Bool.eq_iff_iff, beq_iff_eq, decide_eq_true_iff]
  constructor
  · intro c; right; omega
  · intro c; rcases c with c | c
    · exact absurd c h
    · omega
end Go.Proofs.YtbmfbmepgcbhfaaDoor
