/- Contracts: Make and Scale of both, in one form. -/
import Derived.Test.YtbmfbmepgcbhfaaDoorB5
set_option linter.unusedSimpArgs false
set_option linter.unusedVariables false
namespace Go.Proofs.YtbmfbmepgcbhfaaDoor
open Go Go.RowKit Ff

@[irreducible] def mkB (m : Nat) (e : Int) : Bool := decide (m = 0 ∨ mkOk (od m) (e + tz m))
@[irreducible] def mkF (neg : Bool) (m : Nat) (e : Int) : Nat := if m = 0 then wf neg 0 else if mkOk (od m) (e + tz m) then wf neg (mkR (od m) (e + tz m)) else 0
theorem mkB_zero (e : Int) : mkB 0 e = true := by unfold mkB; simp
theorem mkF_zero (neg : Bool) (e : Int) : mkF neg 0 e = wf neg 0 := by unfold mkF; simp
theorem mkB_ok {m : Nat} {e : Int} (h : mkOk (od m) (e + tz m)) : mkB m e = true := by unfold mkB; simp [h]
theorem mkF_ok {neg : Bool} {m : Nat} {e : Int} (h0 : 0 < m) (h : mkOk (od m) (e + tz m)) : mkF neg m e = wf neg (mkR (od m) (e + tz m)) := by
  unfold mkF; rw [if_neg (by omega), if_pos h]
theorem mkB_no {m : Nat} {e : Int} (h0 : 0 < m) (h : ¬ mkOk (od m) (e + tz m)) : mkB m e = false := by
  unfold mkB; rw [decide_eq_false_iff_not]; intro c; rcases c with c | c
  · omega
  · exact h c
theorem mkF_no {neg : Bool} {m : Nat} {e : Int} (h0 : 0 < m) (h : ¬ mkOk (od m) (e + tz m)) : mkF neg m e = 0 := by
  unfold mkF; rw [if_neg (by omega), if_neg h]
theorem far_no {m : Nat} {e : Int} (h0 : 0 < m) (hm : m < 18446744073709551616) (he : 1023 < e ∨ e < -1137) : ¬ mkOk (od m) (e + tz m) := by
  have h := tz_spec h0 hm
  have hp := bl_pos (od_pos h0 hm)
  intro c
  obtain ⟨c1, c2, c3⟩ := mkOk_bits c
  omega
theorem Make_c (neg : Bool) (m : Nat) (hm : m < 18446744073709551616) (e : Int) (w : World) (ht : Tabs w) :
    Calls Tryd.prog 24 #[.bool neg, .int .u64 m, .int .i64 e] w fun r w' => r = .returned (.tuple #[.float .f64 (mkF neg m e), .bool (mkB m e)]) ∧ w = w' := by
  by_cases h0 : m = 0
  · subst h0; rw [mkF_zero, mkB_zero]; exact Make_zero neg e w
  · by_cases hf : 1023 < e ∨ e < -1137
    · have hn := far_no (by omega) hm hf
      rw [mkF_no (by omega) hn, mkB_no (by omega) hn]; exact Make_far neg m h0 e hf w
    · by_cases hk : mkOk (od m) (e + tz m)
      · rw [mkF_ok (by omega) hk, mkB_ok hk]; exact Make_ok neg m (by omega) hm e (by omega) (by omega) hk w ht
      · rw [mkF_no (by omega) hk, mkB_no (by omega) hk]; exact Make_bad neg m (by omega) hm e (by omega) (by omega) hk w ht
theorem rMake_c (neg : Bool) (m : Nat) (hm : m < 18446744073709551616) (e : Int) (w : World) :
    Calls Tryd.prog 15 #[.bool neg, .int .u64 m, .int .i64 e] w fun r w' => r = .returned (.tuple #[.float .f64 (mkF neg m e), .bool (mkB m e)]) ∧ w = w' := by
  by_cases h0 : m = 0
  · subst h0; rw [mkF_zero, mkB_zero]; exact rMake_zero neg e w
  · by_cases hf : 1024 < e ∨ e < -1138
    · have hn := far_no (by omega) hm (e := e) (by omega)
      rw [mkF_no (by omega) hn, mkB_no (by omega) hn]; exact rMake_far neg m h0 e hf w
    · by_cases hk : mkOk (od m) (e + tz m)
      · rw [mkF_ok (by omega) hk, mkB_ok hk]; exact rMake_ok neg m (by omega) hm e (by omega) (by omega) hk w
      · rw [mkF_no (by omega) hk, mkB_no (by omega) hk]; exact rMake_bad neg m (by omega) hm e (by omega) (by omega) hk w

@[irreducible] def scF (x : Nat) (k : Int) : Nat := if finB x = false then 0 else if rung x = 0 then x else mkF (sgn x) (partM x) (partE x + k)
@[irreducible] def scB (x : Nat) (k : Int) : Bool := if finB x = false then false else if rung x = 0 then true else mkB (partM x) (partE x + k)
theorem partM_odd {x : Nat} (h0 : rung x ≠ 0) : partM x % 2 = 1 := by
  rw [partM_od h0]; exact (tz_spec (pm_pos h0) (by have := pm_lt x; omega)).2.1
theorem partM_lt (x : Nat) : partM x < 9007199254740992 := by
  unfold partM; split
  · omega
  · exact Nat.lt_of_le_of_lt od_le (pm_lt x)
theorem partE_bd (x : Nat) (hf : finB x = true) : -1074 ≤ partE x ∧ partE x ≤ 1100 := by
  unfold partE; split
  · omega
  · rename_i h0
    have h1 := (finB_true x).1 hf
    have h2 := (tz_spec (pm_pos h0) (by have := pm_lt x; omega)).2.2
    by_cases c : rung x < 4503599627370496
    · rw [pex_sub c]; omega
    · rw [pex_nor c]; omega
theorem sc_far {x : Nat} {k : Int} (hf : finB x = true) (h0 : rung x ≠ 0) (hk : k < -4096 ∨ 4096 < k) : scF x k = 0 ∧ scB x k = false := by
  have ho := partM_odd h0
  have hl := partM_lt x
  have hb := partE_bd x hf
  have hn := far_no (m := partM x) (e := partE x + k) (by omega) (by omega) (by omega)
  unfold scF scB
  rw [if_neg (by simp [hf]), if_neg h0, if_neg (by simp [hf]), if_neg h0, mkF_no (by omega) hn, mkB_no (by omega) hn]
  exact ⟨rfl, rfl⟩
theorem sc_near {x : Nat} {k : Int} (hf : finB x = true) (h0 : rung x ≠ 0) : mkF (sgn x) (partM x) (partE x + k) = scF x k ∧ mkB (partM x) (partE x + k) = scB x k := by
  unfold scF scB
  rw [if_neg (by simp [hf]), if_neg h0, if_neg (by simp [hf]), if_neg h0]
  exact ⟨rfl, rfl⟩
theorem sc_zero {x : Nat} {k : Int} (hf : finB x = true) (h0 : rung x = 0) : scF x k = x ∧ scB x k = true := by
  unfold scF scB
  rw [if_neg (by simp [hf]), if_pos h0, if_neg (by simp [hf]), if_pos h0]
  exact ⟨rfl, rfl⟩
theorem sc_inf {x : Nat} {k : Int} (hf : finB x = false) : scF x k = 0 ∧ scB x k = false := by
  unfold scF scB
  rw [if_pos hf, if_pos hf]
  exact ⟨rfl, rfl⟩
theorem ret_fb' {s t : Bool} {a b : Nat} (h : a = b) (h' : s = t) : Ending.returned (.tuple #[.float .f64 a, .bool s]) = .returned (.tuple #[.float .f64 b, .bool t]) := by rw [h, h']

end Go.Proofs.YtbmfbmepgcbhfaaDoor
