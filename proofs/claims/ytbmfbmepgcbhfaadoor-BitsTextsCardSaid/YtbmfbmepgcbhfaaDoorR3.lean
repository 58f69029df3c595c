/- Contracts: guess and Read of package bits at the text of a float. -/
import Derived.Test.YtbmfbmepgcbhfaaDoorR2
set_option linter.unusedSimpArgs false
set_option linter.unusedVariables false
namespace Go.Proofs.YtbmfbmepgcbhfaaDoor
open Go Go.RowKit Go.Sort Ff
attribute [local go_sem] f_lt f_gt f_eq f_ne

@[irreducible] def numT (m : Nat) (e : Int) : List UInt8 := Lib.decDigits m ++ 112 :: Lib.itoa e
theorem numT_eq (m : Nat) (e : Int) : numT m e = Lib.decDigits m ++ 112 :: Lib.itoa e := by unfold numT; rfl
theorem numT_head (m : Nat) (e : Int) : ∃ c r, numT m e = c :: r ∧ 48 ≤ c.toNat ∧ c.toNat ≤ 57 ∧ r ≠ [] := by
  rw [numT_eq]
  cases hd : Lib.decDigits m with
  | nil => exact absurd hd (dec_ne m)
  | cons c r =>
    have := dec_mem m c (by rw [hd]; exact List.mem_cons_self)
    exact ⟨c, r ++ 112 :: Lib.itoa e, rfl, this.1, this.2, by simp⟩
theorem numT_nan (m : Nat) (e : Int) : (numT m e == [110, 97, 110]) = false := by
  obtain ⟨c, r, h, h1, h2, _⟩ := numT_head m e
  rw [h, beq_eq_false_iff_ne]; intro x; injection x with x _; subst x; revert h2; decide
theorem numT_inf (m : Nat) (e : Int) : (numT m e == [105, 110, 102]) = false := by
  obtain ⟨c, r, h, h1, h2, _⟩ := numT_head m e
  rw [h, beq_eq_false_iff_ne]; intro x; injection x with x _; subst x; revert h2; decide
theorem numT_0 (m : Nat) (e : Int) : (numT m e == [48]) = false := by
  obtain ⟨c, r, h, h1, h2, h3⟩ := numT_head m e
  rw [h, beq_eq_false_iff_ne]; intro x; injection x with _ x; exact h3 x
theorem numT_cut (m : Nat) (e : Int) : Lib.cut (numT m e) [112] = (Lib.decDigits m, Lib.itoa e, true) := by
  rw [numT_eq]; exact cut_p _ _ (fun c hc => by have := dec_mem m c hc; intro x; subst x; revert this; decide)
theorem numT_trim (m : Nat) (e : Int) : Lib.trimPrefix (numT m e) [45] = numT m e ∧ Lib.hasPrefix (numT m e) [45] = false := by
  obtain ⟨c, r, h, h1, h2, _⟩ := numT_head m e
  have e1 : Lib.hasPrefix (numT m e) [45] = false := by
    rw [h]; unfold Lib.hasPrefix; simp [List.isPrefixOf]; intro x; subst x; revert h1; decide
  exact ⟨by unfold Lib.trimPrefix; rw [e1]; rfl, e1⟩
theorem minus_trim (t : List UInt8) : Lib.trimPrefix (45 :: t) [45] = t ∧ Lib.hasPrefix (45 :: t) [45] = true := by
  have e1 : Lib.hasPrefix (45 :: t) [45] = true := by unfold Lib.hasPrefix; simp [List.isPrefixOf]
  exact ⟨by unfold Lib.trimPrefix; rw [e1]; rfl, e1⟩
theorem numT_len {m : Nat} {e : Int} (hm : m < 18446744073709551616) (he : -1000000 ≤ e ∧ e ≤ 1000000) : (numT m e).length ≤ 42 := by
  rw [numT_eq]; have := dec_len hm; have := itoa_len he; simp; omega
def sgT (neg : Bool) (t : List UInt8) : List UInt8 := if neg then 45 :: t else t

theorem guess_num (neg : Bool) (m : Nat) (hm : m < 18446744073709551616) (ex : Int) (he : -1000000 ≤ ex ∧ ex ≤ 1000000) (w : World) (ht : TabR w) :
    Calls Tryd.prog 11 #[.string ⟨(sgT neg (numT m ex)).toArray⟩] w fun e w' => e = .returned (.tuple #[.float .f64 (mkF neg m ex), .bool (mkB m ex)]) ∧ Below w.heap.size w w' := by
  obtain ⟨mx, hmx⟩ := ht.2.1
  have hT : Lib.trimPrefix (sgT neg (numT m ex)) [45] = numT m ex ∧ Lib.hasPrefix (sgT neg (numT m ex)) [45] = neg := by
    cases neg
    · exact numT_trim m ex
    · exact minus_trim _
  obtain ⟨t1, t2⟩ := hT
  have t3 := numT_cut m ex
  have t6 := numT_nan m ex
  have t7 := numT_inf m ex
  have t8 := numT_0 m ex
  have t4 := Lib.hid (parseB_dec m hm)
  have t5 := Lib.hid (atoi_itoa ex he)
  have hl := numT_len hm he
  have hd := dec_len hm
  have hi := itoa_len he
  go_enter Tryd.func11, Tryd.ntmps11
  go_wp2_with fail
  go_at_call 29
  refine (Tryd.strings_CutPrefix _ _ _).mono ?_
  rintro e w1 ⟨rfl, rfl⟩
  go_wp2_with fail
  go_at_call 33
  refine (Tryd.strings_Cut _ _ mx _ (by show (numT m ex).toArray.size < _; rw [List.size_toArray]; omega) hmx).mono ?_
  rintro e w1 ⟨rfl, n, rfl⟩
  go_wp2_with fail
  go_at_call 34
  refine (Tryd.strconv_ParseUint_10_at64_ok _ (by show (Lib.decDigits m).toArray.size ≤ _; rw [List.size_toArray]; omega) m t4.out _).mono ?_
  rintro e w2 ⟨rfl, hw2⟩
  have hb2 := below_bytes hw2
  clear hw2
  go_wp2_with fail
  go_at_call 35
  refine (Tryd.strconv_Atoi_ok _ (by show (Lib.itoa ex).toArray.size ≤ _; rw [List.size_toArray]; omega) ex t5.out _).mono ?_
  rintro e w3 ⟨rfl, hw3⟩
  have hb3 : Below w2.heap.size w2 w3 := by
    rcases hw3 with h | ⟨t, h⟩
    · exact below_bytes (s := ⟨#[]⟩) (Or.inl h)
    · exact below_bytes (Or.inr h)
  clear hw3
  have hb2' : Below w1.heap.size w1 w2 := below_drewN (Below.refl _ _) n |>.trans hb2
  have hb : Below w1.heap.size w1 w3 := hb2'.trans (hb3.mono hb2'.size)
  have htt : Tabs w3 := ((ht.below hb).1).1
  go_wp2_with fail
  go_at_call 24
  refine (Make_c neg m hm ex w3 htt).mono ?_
  rintro e w4 ⟨rfl, rfl⟩
  go_wp2
  go_ret2
  exact ⟨rfl, hb⟩
end Go.Proofs.YtbmfbmepgcbhfaaDoor
