/- The laws BitsParts, BitsMakes, BitsNext over whatever world holds the tables. -/
import Derived.Test.YtpfgefeehagjcaaDoorB12
import Derived.DataShut
set_option linter.unusedSimpArgs false
set_option linter.unusedVariables false
namespace Go.Proofs.YtpfgefeehagjcaaDoor
open Go Go.WideShapes Go.ChangeShapes Go.RowKit Go.Sort Ff
attribute [local go_sem] f_lt f_gt f_eq f_ne

theorem u64_nat {x : Int} (h : (Lit.int .u64 x).wf = true) : ∃ n : Nat, n < 18446744073709551616 ∧ x = n := by
  have h' := (Lit.wf_int_iff .u64 x).1 h
  rw [show IntKind.min .u64 = 0 from rfl, show IntKind.max .u64 = 18446744073709551615 from rfl] at h'
  exact ⟨x.toNat, by omega, by omega⟩
theorem i64_bd {x : Int} (h : (Lit.int .i64 x).wf = true) : -9223372036854775808 ≤ x ∧ x ≤ 9223372036854775807 := by
  have h' := (Lit.wf_int_iff .i64 x).1 h
  rw [show IntKind.min .i64 = -9223372036854775808 from rfl, show IntKind.max .i64 = 9223372036854775807 from rfl] at h'
  omega
theorem kind_le (x : Nat) : kind x ≤ 5 := by unfold kind; (repeat' split) <;> omega

theorem BitsParts_law (x : Nat) (hx : x < 18446744073709551616) (w : World) (ht : TabR w) :
    Calls Tryd.prog 3 #[.int .u64 x] w fun e w' => e = .returned (.bool true) ∧ Below w.heap.size w w' := by
  have h12 := ext_from
  have hk := kind_le x
  cases hf : finB x
  · go_enter Tryd.func3, Tryd.ntmps3
    go_wp2_with (first | (go_at_call 13; refine (Parts_no x hx hf _).mono ?_; rintro e w' ⟨rfl, rfl⟩) | (go_at_call 14; refine (KindOf_c _ hx _).mono ?_; rintro e w' ⟨rfl, rfl⟩) | (go_at_call 15; refine (rKind_c _ _).mono ?_; rintro e w' ⟨rfl, rfl⟩) | (go_at_call 16; refine (Finite_c _ hx _).mono ?_; rintro e w' ⟨rfl, rfl⟩) | (go_at_call 18; refine (Neg_c _ hx _).mono ?_; rintro e w' ⟨rfl, rfl⟩) | (go_at_call 19; refine (rNeg_c _ hx _).mono ?_; rintro e w' ⟨rfl, rfl⟩) | (go_at_call 21; refine (rParts_c _ hx hf _).mono ?_; rintro e w' ⟨rfl, rfl⟩))
    refine (rFinite_c _ _).mono ?_
    rintro e w1 ⟨rfl, hb1⟩
    go_wp2_with (first | (go_at_call 13; refine (Parts_no x hx hf _).mono ?_; rintro e w' ⟨rfl, rfl⟩) | (go_at_call 14; refine (KindOf_c _ hx _).mono ?_; rintro e w' ⟨rfl, rfl⟩) | (go_at_call 15; refine (rKind_c _ _).mono ?_; rintro e w' ⟨rfl, rfl⟩) | (go_at_call 16; refine (Finite_c _ hx _).mono ?_; rintro e w' ⟨rfl, rfl⟩) | (go_at_call 18; refine (Neg_c _ hx _).mono ?_; rintro e w' ⟨rfl, rfl⟩) | (go_at_call 19; refine (rNeg_c _ hx _).mono ?_; rintro e w' ⟨rfl, rfl⟩) | (go_at_call 21; refine (rParts_c _ hx hf _).mono ?_; rintro e w' ⟨rfl, rfl⟩))
    refine (rFinite_c _ _).mono ?_
    rintro e w2 ⟨rfl, hb2⟩
    go_wp2_with (first | (go_at_call 13; refine (Parts_no x hx hf _).mono ?_; rintro e w' ⟨rfl, rfl⟩) | (go_at_call 14; refine (KindOf_c _ hx _).mono ?_; rintro e w' ⟨rfl, rfl⟩) | (go_at_call 15; refine (rKind_c _ _).mono ?_; rintro e w' ⟨rfl, rfl⟩) | (go_at_call 16; refine (Finite_c _ hx _).mono ?_; rintro e w' ⟨rfl, rfl⟩) | (go_at_call 18; refine (Neg_c _ hx _).mono ?_; rintro e w' ⟨rfl, rfl⟩) | (go_at_call 19; refine (rNeg_c _ hx _).mono ?_; rintro e w' ⟨rfl, rfl⟩) | (go_at_call 21; refine (rParts_c _ hx hf _).mono ?_; rintro e w' ⟨rfl, rfl⟩))
    refine (lives_c _ (ht.below (hb1.trans (hb2.mono hb1.size)))).mono ?_
    rintro e w3 ⟨rfl, hb3⟩
    go_wp2
    go_ret
    exact ⟨rfl, ((hb1.trans (hb2.mono hb1.size))).trans (hb3.mono ((hb1.trans (hb2.mono hb1.size))).size)⟩
  · go_enter Tryd.func3, Tryd.ntmps3
    go_wp2_with (first | (go_at_call 13; refine (Parts_yes x hx hf _ ht.1.1).mono ?_; rintro e w' ⟨rfl, rfl⟩) | (go_at_call 14; refine (KindOf_c _ hx _).mono ?_; rintro e w' ⟨rfl, rfl⟩) | (go_at_call 15; refine (rKind_c _ _).mono ?_; rintro e w' ⟨rfl, rfl⟩) | (go_at_call 16; refine (Finite_c _ hx _).mono ?_; rintro e w' ⟨rfl, rfl⟩) | (go_at_call 18; refine (Neg_c _ hx _).mono ?_; rintro e w' ⟨rfl, rfl⟩) | (go_at_call 19; refine (rNeg_c _ hx _).mono ?_; rintro e w' ⟨rfl, rfl⟩) | (go_at_call 21; refine (rParts_c _ hx hf _).mono ?_; rintro e w' ⟨rfl, rfl⟩))
    refine (rFinite_c _ _).mono ?_
    rintro e w1 ⟨rfl, hb1⟩
    go_wp2_with (first | (go_at_call 13; refine (Parts_yes x hx hf _ ht.1.1).mono ?_; rintro e w' ⟨rfl, rfl⟩) | (go_at_call 14; refine (KindOf_c _ hx _).mono ?_; rintro e w' ⟨rfl, rfl⟩) | (go_at_call 15; refine (rKind_c _ _).mono ?_; rintro e w' ⟨rfl, rfl⟩) | (go_at_call 16; refine (Finite_c _ hx _).mono ?_; rintro e w' ⟨rfl, rfl⟩) | (go_at_call 18; refine (Neg_c _ hx _).mono ?_; rintro e w' ⟨rfl, rfl⟩) | (go_at_call 19; refine (rNeg_c _ hx _).mono ?_; rintro e w' ⟨rfl, rfl⟩) | (go_at_call 21; refine (rParts_c _ hx hf _).mono ?_; rintro e w' ⟨rfl, rfl⟩))
    refine (rFinite_c _ _).mono ?_
    rintro e w2 ⟨rfl, hb2⟩
    go_wp2_with (first | (go_at_call 13; refine (Parts_yes x hx hf _ ht.1.1).mono ?_; rintro e w' ⟨rfl, rfl⟩) | (go_at_call 14; refine (KindOf_c _ hx _).mono ?_; rintro e w' ⟨rfl, rfl⟩) | (go_at_call 15; refine (rKind_c _ _).mono ?_; rintro e w' ⟨rfl, rfl⟩) | (go_at_call 16; refine (Finite_c _ hx _).mono ?_; rintro e w' ⟨rfl, rfl⟩) | (go_at_call 18; refine (Neg_c _ hx _).mono ?_; rintro e w' ⟨rfl, rfl⟩) | (go_at_call 19; refine (rNeg_c _ hx _).mono ?_; rintro e w' ⟨rfl, rfl⟩) | (go_at_call 21; refine (rParts_c _ hx hf _).mono ?_; rintro e w' ⟨rfl, rfl⟩))
    refine (lives_c _ (ht.below (hb1.trans (hb2.mono hb1.size)))).mono ?_
    rintro e w3 ⟨rfl, hb3⟩
    go_wp2
    go_ret
    exact ⟨rfl, ((hb1.trans (hb2.mono hb1.size))).trans (hb3.mono ((hb1.trans (hb2.mono hb1.size))).size)⟩

theorem like_refl (x : Nat) : likeB x x = true := by unfold likeB; simp
theorem BitsMakes_law (neg : Bool) (m : Nat) (hm : m < 18446744073709551616) (e : Int) (w : World) (ht : TabR w) :
    Calls Tryd.prog 4 #[.bool neg, .int .u64 m, .int .i64 e] w fun e w' => e = .returned (.bool true) ∧ Below w.heap.size w w' := by
  have h12 := ext_from
  have hl := like_refl
  go_enter Tryd.func4, Tryd.ntmps4
  go_wp2_with (first | (go_at_call 22; refine (Make_c _ _ hm _ _ ht.1.1).mono ?_; rintro e w' ⟨rfl, rfl⟩) | (go_at_call 23; refine (rMake_c _ _ hm _ _).mono ?_; rintro e w' ⟨rfl, rfl⟩) | (go_at_call 24; refine (Scale_c _ hm _ _ ht.1.1).mono ?_; rintro e w' ⟨rfl, rfl⟩))
  refine (rScale_c _ hm _ _).mono ?_
  rintro e w1 ⟨rfl, hb1⟩
  go_wp2_with (go_at_call 26; refine (rLike_c _ _ _).mono ?_; rintro e w' ⟨rfl, rfl⟩)
  refine (lives_c _ (ht.below hb1)).mono ?_
  rintro e w3 ⟨rfl, hb3⟩
  go_wp2
  go_ret
  exact ⟨rfl, hb1.trans (hb3.mono hb1.size)⟩
theorem BitsNext_law (x y p : Nat) (hx : x < 18446744073709551616) (hy : y < 18446744073709551616) (hp : p < 18446744073709551616) (w : World) (ht : TabR w) :
    Calls Tryd.prog 5 #[.int .u64 x, .int .u64 y, .int .u64 p] w fun e w' => e = .returned (.bool true) ∧ Below w.heap.size w w' := by
  have h12 := ext_from
  have hl := like_refl
  go_enter Tryd.func5, Tryd.ntmps5
  go_wp2_with (first | (go_at_call 27; refine (Up_c _ hx _).mono ?_; rintro e w' ⟨rfl, rfl⟩) | (go_at_call 28; refine (rUp_c _ hx _).mono ?_; rintro e w' ⟨rfl, rfl⟩) | (go_at_call 29; refine (Down_c _ hx _).mono ?_; rintro e w' ⟨rfl, rfl⟩) | (go_at_call 30; refine (rDown_c _ hx _).mono ?_; rintro e w' ⟨rfl, rfl⟩) | (go_at_call 26; refine (rLike_c _ _ _).mono ?_; rintro e w' ⟨rfl, rfl⟩) | (go_at_call 31; refine (Like_c _ _ _).mono ?_; rintro e w' ⟨rfl, rfl⟩) | (go_at_call 32; refine (Order_c _ _ hx hy _).mono ?_; rintro e w' ⟨rfl, rfl⟩) | (go_at_call 33; refine (rOrder_c _ _ hx hy _).mono ?_; rintro e w' ⟨rfl, rfl⟩) | (go_at_call 34; refine (At_c _ hp _).mono ?_; rintro e w' ⟨rfl, rfl⟩) | (go_at_call 35; refine (rAt_c _ hp _).mono ?_; rintro e w' ⟨rfl, rfl⟩) | (go_at_call 36; refine (Place_c _ hx _).mono ?_; rintro e w' ⟨rfl, rfl⟩) | (go_at_call 37; refine (rPlace_c _ hx _).mono ?_; rintro e w' ⟨rfl, rfl⟩) | (go_at_call 20; refine (lives_c _ ht).mono ?_; rintro e w' ⟨rfl, hb⟩))
  go_ret
  exact ⟨rfl, hb⟩
end Go.Proofs.YtpfgefeehagjcaaDoor
