/- The law BitsBack over whatever world holds the tables. -/
import Derived.Test.YtpfgefeehagjcaaDoorR4
set_option linter.unusedSimpArgs false
set_option linter.unusedVariables false
namespace Go.Proofs.YtpfgefeehagjcaaDoor
open Go Go.RowKit Go.Sort Ff
attribute [local go_sem] f_lt f_gt f_eq f_ne

@[irreducible] def bigB (p : Nat) : Bool := decide (9007199254740992 ≤ p)
@[local go_sem] theorem big_ge (p : Nat) : decide ((9007199254740992 : Int) ≤ (p : Int)) = bigB p := by
  unfold bigB; rw [Bool.eq_iff_iff, decide_eq_true_iff, decide_eq_true_iff]; omega
theorem BitsBack_no_fin (x : Nat) (hx : x < 18446744073709551616) (hf : finB x = true) (neg : Bool) (m : Nat) (hm : m < 18446744073709551616) (e : Int) (h0 : 0 < m) (hk : ¬ mkOk (od m) (e + tz m)) (w : World) (ht : TabR w) :
    Calls Tryd.prog 8 #[.int .u64 x, .bool neg, .int .u64 m, .int .i64 e] w fun e w' => e = .returned (.bool true) ∧ Below w.heap.size w w' := by
  have h12 := ext_from
  have hl := like_refl
  obtain ⟨hp1, hp2⟩ := at_place hx
  have hc : likeB x (canonF x) = true := by rw [canon_eq]; exact like_guess x
  have hpl : place x < 18446744073709551616 := Nat.lt_of_le_of_lt (place_le x) (by decide)
  obtain ⟨mk1, mk2⟩ := mk_parts hx hf
  have hpm := partM_lt x
  have hpb : bigB (partM x) = false := by unfold bigB; rw [decide_eq_false_iff_not]; omega
  have hpo : Hid (((partM x : Int) != 0) = true → ((partM x : Int) % 2 == 0) = false) := Lib.hid (fun a => by
    rw [bne_iff_ne] at a
    have h0 : rung x ≠ 0 := fun c => a (by unfold partM; rw [if_pos c]; rfl)
    have := partM_odd h0; rw [beq_eq_false_iff_ne]; omega)
  have k1 := mkB_no h0 hk
  have k2 : ((m : Int) != 0) = true := by rw [bne_iff_ne]; omega
  cases hpz : ((partM x : Int) != 0)
  case' true => have hpo' := hpo.out hpz
  all_goals
    go_enter Tryd.func8, Tryd.ntmps8
    go_wp2_with fail
    go_at_call 13
    refine (Parts_yes x hx hf w ht.1.1).mono ?_
    rintro e w1 ⟨rfl, rfl⟩
    go_wp2_with fail
    go_at_call 22
    refine (Make_c (sgn x) (partM x) (by omega) (partE x) _ ht.1.1).mono ?_
    rintro e w1 ⟨rfl, rfl⟩
    go_wp2_with (go_at_call 42; refine (same_c _ _ _).mono ?_; rintro e w' ⟨rfl, rfl⟩)
    go_at_call 36
    refine (Place_c x hx _).mono ?_
    rintro e w1 ⟨rfl, rfl⟩
    go_wp2_with fail
    go_at_call 34
    refine (At_c _ hpl _).mono ?_
    rintro e w1 ⟨rfl, rfl⟩
    go_wp2_with fail
    go_at_call 40
    refine (Text_c x hx _ ht.1).mono ?_
    rintro e w2 ⟨rfl, hb2⟩
    go_wp2_with fail
    go_at_call 38
    refine (Read_text x hx _ (ht.below hb2)).mono ?_
    rintro e w3 ⟨rfl, hb3⟩
    have hb := hb2.trans (hb3.mono hb2.size)
    have ht3 := ht.below hb
    go_wp2_with (go_at_call 42; refine (same_c _ _ _).mono ?_; rintro e w' ⟨rfl, rfl⟩)
    go_at_call 22
    refine (Make_c neg m hm e _ ht3.1.1).mono ?_
    rintro e' w4 ⟨rfl, rfl⟩
    go_wp2_with fail
    go_at_call 20
    refine (lives_c _ ht3).mono ?_
    rintro e w5 ⟨rfl, hb5⟩
    go_wp2
    go_ret
    exact ⟨rfl, hb.trans (hb5.mono hb.size)⟩
theorem BitsBack_zero_fin (x : Nat) (hx : x < 18446744073709551616) (hf : finB x = true) (neg : Bool) (e : Int) (w : World) (ht : TabR w) :
    Calls Tryd.prog 8 #[.int .u64 x, .bool neg, .int .u64 0, .int .i64 e] w fun e w' => e = .returned (.bool true) ∧ Below w.heap.size w w' := by
  have h12 := ext_from
  have hl := like_refl
  obtain ⟨hp1, hp2⟩ := at_place hx
  have hc : likeB x (canonF x) = true := by rw [canon_eq]; exact like_guess x
  have hpl : place x < 18446744073709551616 := Nat.lt_of_le_of_lt (place_le x) (by decide)
  obtain ⟨mk1, mk2⟩ := mk_parts hx hf
  have hpm := partM_lt x
  have hpb : bigB (partM x) = false := by unfold bigB; rw [decide_eq_false_iff_not]; omega
  have hpo : Hid (((partM x : Int) != 0) = true → ((partM x : Int) % 2 == 0) = false) := Lib.hid (fun a => by
    rw [bne_iff_ne] at a
    have h0 : rung x ≠ 0 := fun c => a (by unfold partM; rw [if_pos c]; rfl)
    have := partM_odd h0; rw [beq_eq_false_iff_ne]; omega)
  obtain ⟨z1, z2⟩ := wf_rung (neg := neg) (r := 0) (by decide)
  have z3 : finB (wf neg 0) = true := by rw [finB_true, z1]; omega
  have z4 : wf neg 0 < 18446744073709551616 := wf_lt (by decide)
  have z5 : partM (wf neg 0) = 0 := by unfold partM; rw [if_pos z1]
  cases hpz : ((partM x : Int) != 0)
  case' true => have hpo' := hpo.out hpz
  all_goals
    go_enter Tryd.func8, Tryd.ntmps8
    go_wp2_with fail
    go_at_call 13
    refine (Parts_yes x hx hf w ht.1.1).mono ?_
    rintro e w1 ⟨rfl, rfl⟩
    go_wp2_with fail
    go_at_call 22
    refine (Make_c (sgn x) (partM x) (by omega) (partE x) _ ht.1.1).mono ?_
    rintro e w1 ⟨rfl, rfl⟩
    go_wp2_with (go_at_call 42; refine (same_c _ _ _).mono ?_; rintro e w' ⟨rfl, rfl⟩)
    go_at_call 36
    refine (Place_c x hx _).mono ?_
    rintro e w1 ⟨rfl, rfl⟩
    go_wp2_with fail
    go_at_call 34
    refine (At_c _ hpl _).mono ?_
    rintro e w1 ⟨rfl, rfl⟩
    go_wp2_with fail
    go_at_call 40
    refine (Text_c x hx _ ht.1).mono ?_
    rintro e w2 ⟨rfl, hb2⟩
    go_wp2_with fail
    go_at_call 38
    refine (Read_text x hx _ (ht.below hb2)).mono ?_
    rintro e w3 ⟨rfl, hb3⟩
    have hb := hb2.trans (hb3.mono hb2.size)
    have ht3 := ht.below hb
    go_wp2_with (go_at_call 42; refine (same_c _ _ _).mono ?_; rintro e w' ⟨rfl, rfl⟩)
    go_at_call 22
    refine (Make_zero neg e _).mono ?_
    rintro e' w4 ⟨rfl, rfl⟩
    go_wp2_with fail
    go_at_call 13
    refine (Parts_yes _ z4 z3 _ ht3.1.1).mono ?_
    rintro e' w4 ⟨rfl, rfl⟩
    go_wp2_with fail
    go_loop [2, 3] (fun a b => a = .int .u64 0 ∧ b = .int .i64 e) (fun _ _ => 0)
    case atStart => exact ⟨rfl, rfl⟩
    case round =>
      obtain ⟨rfl, rfl⟩ := hrel
      go_wp2_with fail
      go_at_call 20
      refine (lives_c _ ht3).mono ?_
      rintro e w5 ⟨rfl, hb5⟩
      go_wp2
      go_ret
      exact ⟨rfl, hb.trans (hb5.mono hb.size)⟩
theorem BitsBack_made_fin (x : Nat) (hx : x < 18446744073709551616) (hf : finB x = true) (neg : Bool) (m : Nat) (hm : m < 18446744073709551616) (e : Int) (h0 : 0 < m) (hk : mkOk (od m) (e + tz m)) (w : World) (ht : TabR w) :
    Calls Tryd.prog 8 #[.int .u64 x, .bool neg, .int .u64 m, .int .i64 e] w fun e w' => e = .returned (.bool true) ∧ Below w.heap.size w w' := by
  have h12 := ext_from
  have hl := like_refl
  obtain ⟨hp1, hp2⟩ := at_place hx
  have hc : likeB x (canonF x) = true := by rw [canon_eq]; exact like_guess x
  have hpl : place x < 18446744073709551616 := Nat.lt_of_le_of_lt (place_le x) (by decide)
  obtain ⟨mk1, mk2⟩ := mk_parts hx hf
  have hpm := partM_lt x
  have hpb : bigB (partM x) = false := by unfold bigB; rw [decide_eq_false_iff_not]; omega
  have hpo : Hid (((partM x : Int) != 0) = true → ((partM x : Int) % 2 == 0) = false) := Lib.hid (fun a => by
    rw [bne_iff_ne] at a
    have h0 : rung x ≠ 0 := fun c => a (by unfold partM; rw [if_pos c]; rfl)
    have := partM_odd h0; rw [beq_eq_false_iff_ne]; omega)
  have k1 := mkB_ok hk
  have k2 : ((m : Int) == 0) = false := by rw [beq_eq_false_iff_ne]; omega
  obtain ⟨z1, z2, z3, z4, z5⟩ := parts_mk (neg := neg) h0 hm hk
  have z6 := mkF_lt neg m hm e
  have z7 : ((partM (mkF neg m e) : Int) == 0) = false := by rw [beq_eq_false_iff_ne, z4]; have := od_pos h0 hm; omega
  have hbd : -1200 ≤ e ∧ e ≤ 1100 := by have := mkOk_bits hk; have := (tz_spec h0 hm).2.2; omega
  have Z4 := Lib.hid z4
  have Z5 := Lib.hid z5
  clear z4 z5
  cases hpz : ((partM x : Int) != 0)
  case' true => have hpo' := hpo.out hpz
  all_goals
    go_enter Tryd.func8, Tryd.ntmps8
    go_wp2_with fail
    go_at_call 13
    refine (Parts_yes x hx hf w ht.1.1).mono ?_
    rintro e w1 ⟨rfl, rfl⟩
    go_wp2_with fail
    go_at_call 22
    refine (Make_c (sgn x) (partM x) (by omega) (partE x) _ ht.1.1).mono ?_
    rintro e w1 ⟨rfl, rfl⟩
    go_wp2_with (go_at_call 42; refine (same_c _ _ _).mono ?_; rintro e w' ⟨rfl, rfl⟩)
    go_at_call 36
    refine (Place_c x hx _).mono ?_
    rintro e w1 ⟨rfl, rfl⟩
    go_wp2_with fail
    go_at_call 34
    refine (At_c _ hpl _).mono ?_
    rintro e w1 ⟨rfl, rfl⟩
    go_wp2_with fail
    go_at_call 40
    refine (Text_c x hx _ ht.1).mono ?_
    rintro e w2 ⟨rfl, hb2⟩
    go_wp2_with fail
    go_at_call 38
    refine (Read_text x hx _ (ht.below hb2)).mono ?_
    rintro e w3 ⟨rfl, hb3⟩
    have hb := hb2.trans (hb3.mono hb2.size)
    have ht3 := ht.below hb
    go_wp2_with (go_at_call 42; refine (same_c _ _ _).mono ?_; rintro e w' ⟨rfl, rfl⟩)
    go_at_call 22
    refine (Make_c neg m hm e _ ht3.1.1).mono ?_
    rintro e' w4 ⟨rfl, rfl⟩
    go_wp2_with fail
    go_at_call 13
    refine (Parts_yes _ z6 z1 _ ht3.1.1).mono ?_
    rintro e' w4 ⟨rfl, rfl⟩
    go_wp2_with fail
    go_loop [2, 3] (fun a b => ∃ (q : Nat) (ex : Int), 0 < q ∧ q < 18446744073709551616 ∧ Hid (od q = od m) ∧ Hid (ex + tz q = e + tz m) ∧ -2000 ≤ ex ∧ a = .int .u64 q ∧ b = .int .i64 ex) (fun a _ => (intOf a).toNat)
    case atStart => exact ⟨m, e, h0, hm, Lib.hid rfl, Lib.hid rfl, by omega, rfl, rfl⟩
    case round =>
      obtain ⟨q, ex, hq0', hq1', H1, H2, hl', rfl, rfl⟩ := hrel
      have hu : ex ≤ 1300 := by have := H2.out; have := (tz_spec h0 hm).2.2; omega
      have hnz : ((q : Int) != 0) = true := by rw [bne_iff_ne]; omega
      have hnz' : ((q : Int) == 0) = false := by rw [beq_eq_false_iff_ne]; omega
      by_cases ho : q % 2 = 1
      · have hto : ((q : Int) % 2 == 0) = false := by rw [beq_eq_false_iff_ne]; omega
        have e1 : ((partM (mkF neg m e) : Int) == (q : Int)) = true := by rw [beq_iff_eq, Z4.out, ← H1.out, od_odd ho]
        have e2 : (partE (mkF neg m e) == ex) = true := by rw [beq_iff_eq, Z5.out, ← H2.out, tz_odd ho]; omega
        go_wp2_with fail
        go_at_call 20
        refine (lives_c _ ht3).mono ?_
        rintro e w5 ⟨rfl, hb5⟩
        go_wp2
        go_ret
        exact ⟨rfl, hb.trans (hb5.mono hb.size)⟩
      · have hto : ((q : Int) % 2 == 0) = true := by rw [beq_iff_eq]; omega
        have H3 := Lib.hid (tz_even hq0' hq1' (by omega))
        go_wp2
        go_round
        case rel => exact ⟨q / 2, ex + 1, by omega, by omega, Lib.hid (by rw [← od_even hq0' hq1' (by omega)]; exact H1.out), Lib.hid (by have := H2.out; rw [H3.out] at this; omega), by omega, by go_num, rfl⟩
        case measure => simp [intOf]; omega
theorem BitsBack_no_inf (x : Nat) (hx : x < 18446744073709551616) (hf : finB x = false) (neg : Bool) (m : Nat) (hm : m < 18446744073709551616) (e : Int) (h0 : 0 < m) (hk : ¬ mkOk (od m) (e + tz m)) (w : World) (ht : TabR w) :
    Calls Tryd.prog 8 #[.int .u64 x, .bool neg, .int .u64 m, .int .i64 e] w fun e w' => e = .returned (.bool true) ∧ Below w.heap.size w w' := by
  have h12 := ext_from
  have hl := like_refl
  obtain ⟨hp1, hp2⟩ := at_place hx
  have hc : likeB x (canonF x) = true := by rw [canon_eq]; exact like_guess x
  have hpl : place x < 18446744073709551616 := Nat.lt_of_le_of_lt (place_le x) (by decide)
  have k1 := mkB_no h0 hk
  have k2 : ((m : Int) != 0) = true := by rw [bne_iff_ne]; omega
  go_enter Tryd.func8, Tryd.ntmps8
  go_wp2_with fail
  go_at_call 13
  refine (Parts_no x hx hf w).mono ?_
  rintro e w1 ⟨rfl, rfl⟩
  go_wp2_with fail
  go_at_call 36
  refine (Place_c x hx _).mono ?_
  rintro e w1 ⟨rfl, rfl⟩
  go_wp2_with fail
  go_at_call 34
  refine (At_c _ hpl _).mono ?_
  rintro e w1 ⟨rfl, rfl⟩
  go_wp2_with fail
  go_at_call 40
  refine (Text_c x hx _ ht.1).mono ?_
  rintro e w2 ⟨rfl, hb2⟩
  go_wp2_with fail
  go_at_call 38
  refine (Read_text x hx _ (ht.below hb2)).mono ?_
  rintro e w3 ⟨rfl, hb3⟩
  have hb := hb2.trans (hb3.mono hb2.size)
  have ht3 := ht.below hb
  go_wp2_with (go_at_call 42; refine (same_c _ _ _).mono ?_; rintro e w' ⟨rfl, rfl⟩)
  go_at_call 22
  refine (Make_c neg m hm e _ ht3.1.1).mono ?_
  rintro e' w4 ⟨rfl, rfl⟩
  go_wp2_with fail
  go_at_call 20
  refine (lives_c _ ht3).mono ?_
  rintro e w5 ⟨rfl, hb5⟩
  go_wp2
  go_ret
  exact ⟨rfl, hb.trans (hb5.mono hb.size)⟩
theorem BitsBack_zero_inf (x : Nat) (hx : x < 18446744073709551616) (hf : finB x = false) (neg : Bool) (e : Int) (w : World) (ht : TabR w) :
    Calls Tryd.prog 8 #[.int .u64 x, .bool neg, .int .u64 0, .int .i64 e] w fun e w' => e = .returned (.bool true) ∧ Below w.heap.size w w' := by
  have h12 := ext_from
  have hl := like_refl
  obtain ⟨hp1, hp2⟩ := at_place hx
  have hc : likeB x (canonF x) = true := by rw [canon_eq]; exact like_guess x
  have hpl : place x < 18446744073709551616 := Nat.lt_of_le_of_lt (place_le x) (by decide)
  obtain ⟨z1, z2⟩ := wf_rung (neg := neg) (r := 0) (by decide)
  have z3 : finB (wf neg 0) = true := by rw [finB_true, z1]; omega
  have z4 : wf neg 0 < 18446744073709551616 := wf_lt (by decide)
  have z5 : partM (wf neg 0) = 0 := by unfold partM; rw [if_pos z1]
  go_enter Tryd.func8, Tryd.ntmps8
  go_wp2_with fail
  go_at_call 13
  refine (Parts_no x hx hf w).mono ?_
  rintro e w1 ⟨rfl, rfl⟩
  go_wp2_with fail
  go_at_call 36
  refine (Place_c x hx _).mono ?_
  rintro e w1 ⟨rfl, rfl⟩
  go_wp2_with fail
  go_at_call 34
  refine (At_c _ hpl _).mono ?_
  rintro e w1 ⟨rfl, rfl⟩
  go_wp2_with fail
  go_at_call 40
  refine (Text_c x hx _ ht.1).mono ?_
  rintro e w2 ⟨rfl, hb2⟩
  go_wp2_with fail
  go_at_call 38
  refine (Read_text x hx _ (ht.below hb2)).mono ?_
  rintro e w3 ⟨rfl, hb3⟩
  have hb := hb2.trans (hb3.mono hb2.size)
  have ht3 := ht.below hb
  go_wp2_with (go_at_call 42; refine (same_c _ _ _).mono ?_; rintro e w' ⟨rfl, rfl⟩)
  go_at_call 22
  refine (Make_zero neg e _).mono ?_
  rintro e' w4 ⟨rfl, rfl⟩
  go_wp2_with fail
  go_at_call 13
  refine (Parts_yes _ z4 z3 _ ht3.1.1).mono ?_
  rintro e' w4 ⟨rfl, rfl⟩
  go_wp2_with fail
  go_loop [2, 3] (fun a b => a = .int .u64 0 ∧ b = .int .i64 e) (fun _ _ => 0)
  case atStart => exact ⟨rfl, rfl⟩
  case round =>
    obtain ⟨rfl, rfl⟩ := hrel
    go_wp2_with fail
    go_at_call 20
    refine (lives_c _ ht3).mono ?_
    rintro e w5 ⟨rfl, hb5⟩
    go_wp2
    go_ret
    exact ⟨rfl, hb.trans (hb5.mono hb.size)⟩
theorem BitsBack_made_inf (x : Nat) (hx : x < 18446744073709551616) (hf : finB x = false) (neg : Bool) (m : Nat) (hm : m < 18446744073709551616) (e : Int) (h0 : 0 < m) (hk : mkOk (od m) (e + tz m)) (w : World) (ht : TabR w) :
    Calls Tryd.prog 8 #[.int .u64 x, .bool neg, .int .u64 m, .int .i64 e] w fun e w' => e = .returned (.bool true) ∧ Below w.heap.size w w' := by
  have h12 := ext_from
  have hl := like_refl
  obtain ⟨hp1, hp2⟩ := at_place hx
  have hc : likeB x (canonF x) = true := by rw [canon_eq]; exact like_guess x
  have hpl : place x < 18446744073709551616 := Nat.lt_of_le_of_lt (place_le x) (by decide)
  have k1 := mkB_ok hk
  have k2 : ((m : Int) == 0) = false := by rw [beq_eq_false_iff_ne]; omega
  obtain ⟨z1, z2, z3, z4, z5⟩ := parts_mk (neg := neg) h0 hm hk
  have z6 := mkF_lt neg m hm e
  have z7 : ((partM (mkF neg m e) : Int) == 0) = false := by rw [beq_eq_false_iff_ne, z4]; have := od_pos h0 hm; omega
  have hbd : -1200 ≤ e ∧ e ≤ 1100 := by have := mkOk_bits hk; have := (tz_spec h0 hm).2.2; omega
  have Z4 := Lib.hid z4
  have Z5 := Lib.hid z5
  clear z4 z5
  go_enter Tryd.func8, Tryd.ntmps8
  go_wp2_with fail
  go_at_call 13
  refine (Parts_no x hx hf w).mono ?_
  rintro e w1 ⟨rfl, rfl⟩
  go_wp2_with fail
  go_at_call 36
  refine (Place_c x hx _).mono ?_
  rintro e w1 ⟨rfl, rfl⟩
  go_wp2_with fail
  go_at_call 34
  refine (At_c _ hpl _).mono ?_
  rintro e w1 ⟨rfl, rfl⟩
  go_wp2_with fail
  go_at_call 40
  refine (Text_c x hx _ ht.1).mono ?_
  rintro e w2 ⟨rfl, hb2⟩
  go_wp2_with fail
  go_at_call 38
  refine (Read_text x hx _ (ht.below hb2)).mono ?_
  rintro e w3 ⟨rfl, hb3⟩
  have hb := hb2.trans (hb3.mono hb2.size)
  have ht3 := ht.below hb
  go_wp2_with (go_at_call 42; refine (same_c _ _ _).mono ?_; rintro e w' ⟨rfl, rfl⟩)
  go_at_call 22
  refine (Make_c neg m hm e _ ht3.1.1).mono ?_
  rintro e' w4 ⟨rfl, rfl⟩
  go_wp2_with fail
  go_at_call 13
  refine (Parts_yes _ z6 z1 _ ht3.1.1).mono ?_
  rintro e' w4 ⟨rfl, rfl⟩
  go_wp2_with fail
  go_loop [2, 3] (fun a b => ∃ (q : Nat) (ex : Int), 0 < q ∧ q < 18446744073709551616 ∧ Hid (od q = od m) ∧ Hid (ex + tz q = e + tz m) ∧ -2000 ≤ ex ∧ a = .int .u64 q ∧ b = .int .i64 ex) (fun a _ => (intOf a).toNat)
  case atStart => exact ⟨m, e, h0, hm, Lib.hid rfl, Lib.hid rfl, by omega, rfl, rfl⟩
  case round =>
    obtain ⟨q, ex, hq0', hq1', H1, H2, hl', rfl, rfl⟩ := hrel
    have hu : ex ≤ 1300 := by have := H2.out; have := (tz_spec h0 hm).2.2; omega
    have hnz : ((q : Int) != 0) = true := by rw [bne_iff_ne]; omega
    have hnz' : ((q : Int) == 0) = false := by rw [beq_eq_false_iff_ne]; omega
    by_cases ho : q % 2 = 1
    · have hto : ((q : Int) % 2 == 0) = false := by rw [beq_eq_false_iff_ne]; omega
      have e1 : ((partM (mkF neg m e) : Int) == (q : Int)) = true := by rw [beq_iff_eq, Z4.out, ← H1.out, od_odd ho]
      have e2 : (partE (mkF neg m e) == ex) = true := by rw [beq_iff_eq, Z5.out, ← H2.out, tz_odd ho]; omega
      go_wp2_with fail
      go_at_call 20
      refine (lives_c _ ht3).mono ?_
      rintro e w5 ⟨rfl, hb5⟩
      go_wp2
      go_ret
      exact ⟨rfl, hb.trans (hb5.mono hb.size)⟩
    · have hto : ((q : Int) % 2 == 0) = true := by rw [beq_iff_eq]; omega
      have H3 := Lib.hid (tz_even hq0' hq1' (by omega))
      go_wp2
      go_round
      case rel => exact ⟨q / 2, ex + 1, by omega, by omega, Lib.hid (by rw [← od_even hq0' hq1' (by omega)]; exact H1.out), Lib.hid (by have := H2.out; rw [H3.out] at this; omega), by omega, by go_num, rfl⟩
      case measure => simp [intOf]; omega
theorem BitsBack_law (x : Nat) (hx : x < 18446744073709551616) (neg : Bool) (m : Nat) (hm : m < 18446744073709551616) (e : Int) (w : World) (ht : TabR w) :
    Calls Tryd.prog 8 #[.int .u64 x, .bool neg, .int .u64 m, .int .i64 e] w fun e w' => e = .returned (.bool true) ∧ Below w.heap.size w w' := by
  by_cases h0 : m = 0
  · subst h0
    cases hf : finB x
    · exact BitsBack_zero_inf x hx hf neg e w ht
    · exact BitsBack_zero_fin x hx hf neg e w ht
  · by_cases hk : mkOk (od m) (e + tz m)
    · cases hf : finB x
      · exact BitsBack_made_inf x hx hf neg m hm e (by omega) hk w ht
      · exact BitsBack_made_fin x hx hf neg m hm e (by omega) hk w ht
    · cases hf : finB x
      · exact BitsBack_no_inf x hx hf neg m hm e (by omega) hk w ht
      · exact BitsBack_no_fin x hx hf neg m hm e (by omega) hk w ht
end Go.Proofs.YtpfgefeehagjcaaDoor
