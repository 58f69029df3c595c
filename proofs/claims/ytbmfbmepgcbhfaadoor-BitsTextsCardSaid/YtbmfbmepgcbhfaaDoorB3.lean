/- Contracts: Parts of package bits and of the document's answer. -/
import Derived.Test.YtbmfbmepgcbhfaaDoorB2
import Derived.Test.YtbmfbmepgcbhfaaDoorMt
import Derived.Laws.ShiftsVarLaws
import Derived.WalkSmall
set_option linter.unusedSimpArgs false
set_option linter.unusedVariables false
namespace Go.Proofs.YtbmfbmepgcbhfaaDoor
open Go Go.RowKit Ff

/-- What stands in the worlds of these calls: the table of the library's. -/
def Tabs (w : World) : Prop := TabAt 1 Lib.deBruijn64tab w ∧ 1 < w.heap.size
theorem Tabs.below {w w' : World} (h : Tabs w) (hb : Below w.heap.size w w') : Tabs w' :=
  ⟨fun j hj => by rw [hb.cell (p := ⟨1, j, none⟩) h.2]; exact h.1 j hj, Nat.lt_of_lt_of_le h.2 hb.size⟩

@[irreducible] def frac (x : Nat) : Nat := rung x % 4503599627370496
@[irreducible] def pm (x : Nat) : Nat := if rung x < 4503599627370496 then rung x else 4503599627370496 + rung x % 4503599627370496
@[irreducible] def pex (x : Nat) : Int := if rung x < 4503599627370496 then -1074 else -1074 + ((rung x / 4503599627370496 - 1 : Nat) : Int)
def partM (x : Nat) : Nat := if rung x = 0 then 0 else od (pm x)
def partE (x : Nat) : Int := if rung x = 0 then 0 else pex x + tz (pm x)
theorem frac_eq (x : Nat) : frac x = rung x % 4503599627370496 := by unfold frac; rfl
theorem pm_sub {x : Nat} (h : rung x < 4503599627370496) : pm x = rung x := by unfold pm; rw [if_pos h]
theorem pm_nor {x : Nat} (h : ¬ rung x < 4503599627370496) : pm x = 4503599627370496 + frac x := by unfold pm; rw [if_neg h, frac_eq]
theorem pex_sub {x : Nat} (h : rung x < 4503599627370496) : pex x = -1074 := by unfold pex; rw [if_pos h]
theorem pex_nor {x : Nat} (h : ¬ rung x < 4503599627370496) : pex x = -1074 + ((rung x / 4503599627370496 - 1 : Nat) : Int) := by unfold pex; rw [if_neg h]
theorem pm_pos {x : Nat} (h : rung x ≠ 0) : 0 < pm x := by unfold pm; split <;> omega
theorem pm_lt (x : Nat) : pm x < 9007199254740992 := by unfold pm; split <;> omega

theorem frac_and (x : Nat) : bits BinOp.and IntKind.u64 (rung x : Int) 4503599627370495 = (frac x : Int) := by
  have := rung_lt x
  rw [show (4503599627370495 : Int) = ((4503599627370495 : Nat) : Int) from rfl, u64_and_nat (rung x) _ (by omega) (by decide), frac_eq]
  congr 1
  exact Nat.and_two_pow_sub_one_eq_mod (rung x) 52
theorem frac_or (x : Nat) (h : ¬ rung x < 4503599627370496) : bits BinOp.or IntKind.u64 (frac x : Int) 4503599627370496 = (pm x : Int) := by
  have := rung_lt x
  have hf : frac x < 4503599627370496 := by rw [frac_eq]; omega
  rw [show (4503599627370496 : Int) = ((4503599627370496 : Nat) : Int) from rfl, u64_or_nat (frac x) _ (by omega) (by decide), pm_nor h, Nat.or_comm]
  congr 1
  exact nat_join 52 _ _ (by decide) hf
theorem frac_sub {x : Nat} (h : rung x < 4503599627370496) : (frac x : Int) = (pm x : Int) := by rw [frac_eq, pm_sub h, Nat.mod_eq_of_lt h]

@[irreducible] def topB (x : Nat) : Nat := if sgn x then 9223372036854775808 else 0
theorem top_and (x : Nat) (hx : x < 18446744073709551616) : bits BinOp.and IntKind.u64 (x : Int) 9223372036854775808 = (topB x : Int) := by
  rw [and_top x hx]; unfold topB; split <;> rfl
theorem top_ne (x : Nat) : ((topB x : Int) != 0) = sgn x := by
  unfold topB; cases sgn x <;> rfl

theorem partM_shift {x : Nat} (h0 : rung x ≠ 0) : (pm x : Int) / 2 ^ min (Lib.ctz 64 (pm x)) 64 = partM x := by
  have h := tz_spec (pm_pos h0) (by have := pm_lt x; omega)
  have e : min (Lib.ctz 64 (pm x)) 64 = tz (pm x) := by have := h.2.2; unfold tz at this ⊢; omega
  rw [e]; unfold partM od; rw [if_neg h0]; norm_cast
theorem partM_od {x : Nat} (h0 : rung x ≠ 0) : partM x = od (pm x) := by unfold partM; rw [if_neg h0]
theorem partE_eq {x : Nat} (h0 : rung x ≠ 0) : partE x = pex x + Lib.ctz 64 (pm x) := by unfold partE tz; rw [if_neg h0]
theorem ctz_le {x : Nat} (h0 : rung x ≠ 0) : Lib.ctz 64 (pm x) < 64 := (tz_spec (pm_pos h0) (by have := pm_lt x; omega)).2.2
theorem Parts_no (x : Nat) (hx : x < 18446744073709551616) (hf : finB x = false) (w : World) :
    Calls Tryd.prog 16 #[.float .f64 x] w fun e w' => e = .returned (.tuple #[.bool false, .int .u64 0, .int .i64 0, .bool false]) ∧ w = w' := by
  go_enter Tryd.func16, Tryd.ntmps16
  go_wp2_with (go_at_call 37; refine (Finite_c _ hx _).mono ?_; rintro e w' ⟨rfl, rfl⟩)
  exact bodyPost_ret (by simp [results, Tryd.results16, go_sem]) rfl ⟨rfl, rfl⟩
theorem Parts_yes (x : Nat) (hx : x < 18446744073709551616) (hf : finB x = true) (w : World) (ht : Tabs w) :
    Calls Tryd.prog 16 #[.float .f64 x] w fun e w' => e = .returned (.tuple #[.bool (sgn x), .int .u64 (partM x), .int .i64 (partE x), .bool true]) ∧ w = w' := by
  have h44 := ext_bits
  have hb := and_not_top x hx
  have ha := top_and x hx
  have hs := top_ne x
  have h1 := frac_and x
  have hr := (finB_true x).1 hf
  by_cases h0 : rung x = 0
  · have hz : ((rung x : Int) == 0) = true := by rw [h0]; rfl
    have em : partM x = 0 := by unfold partM; rw [if_pos h0]
    have ee : partE x = 0 := by unfold partE; rw [if_pos h0]
    go_enter Tryd.func16, Tryd.ntmps16
    go_wp2_with (go_at_call 37; refine (Finite_c _ hx _).mono ?_; rintro e w' ⟨rfl, rfl⟩)
    exact bodyPost_ret (v := .tuple #[.bool (sgn x), .int .u64 (partM x), .int .i64 (partE x), .bool true]) (by simp [results, Tryd.results16, go_sem, em, ee]) rfl ⟨rfl, rfl⟩
  · have hz : ((rung x : Int) == 0) = false := by rw [beq_eq_false_iff_ne]; omega
    have hq := pm_lt x
    by_cases hn : rung x < 4503599627370496
    · have hd : ((rung x : Int) / 4503599627370496 != 0) = false := by rw [bne_eq_false_iff_eq]; omega
      have h2 := frac_sub hn
      go_enter Tryd.func16, Tryd.ntmps16
      go_wp2_with (first | (go_at_call 37; refine (Finite_c _ hx _).mono ?_; rintro e w' ⟨rfl, rfl⟩) | (go_at_call 38; refine (Tryd.bits_TrailingZeros64 _ (by omega) _ (fun _ => ht.1)).mono ?_; rintro e w' ⟨rfl, rfl⟩))
      refine bodyPost_ret (v := .tuple #[.bool (sgn x), .int .u64 (partM x), .int .i64 (partE x), .bool true]) ?_ rfl ⟨rfl, rfl⟩
      simp [results, Tryd.results16, go_sem]
      refine ⟨partM_shift h0, ?_⟩
      rw [partE_eq h0, pex_sub hn, IntWalk.wrap64_in]
      have := ctz_le h0; omega
    · have hd : ((rung x : Int) / 4503599627370496 != 0) = true := by rw [bne_iff_ne]; omega
      have h2 := frac_or x hn
      go_enter Tryd.func16, Tryd.ntmps16
      go_wp2_with (first | (go_at_call 37; refine (Finite_c _ hx _).mono ?_; rintro e w' ⟨rfl, rfl⟩) | (go_at_call 38; refine (Tryd.bits_TrailingZeros64 _ (by omega) _ (fun _ => ht.1)).mono ?_; rintro e w' ⟨rfl, rfl⟩))
      refine bodyPost_ret (v := .tuple #[.bool (sgn x), .int .u64 (partM x), .int .i64 (partE x), .bool true]) ?_ rfl ⟨rfl, rfl⟩
      simp [results, Tryd.results16, go_sem]
      refine ⟨partM_shift h0, ?_⟩
      rw [partE_eq h0, pex_nor hn, IntWalk.wrap64_in]
      · omega
      · have := ctz_le h0; omega

theorem pm_rem (x : Nat) : (rung x : Int).tmod 4503599627370496 = (frac x : Int) := by
  rw [frac_eq]; exact Int.ofNat_tmod (rung x) 4503599627370496
theorem pm_mod (x : Nat) : (rung x : Int) % 4503599627370496 = (frac x : Int) := by rw [frac_eq]; omega
theorem pm_add {x : Nat} (h : ¬ rung x < 4503599627370496) : (frac x : Int) + 4503599627370496 = (pm x : Int) := by rw [pm_nor h]; omega
@[irreducible] def norB (x : Nat) : Bool := decide (4503599627370496 ≤ rung x)
theorem nor_geq (x : Nat) : decide ((4503599627370496 : Int) ≤ (rung x : Int)) = norB x := by
  unfold norB; rw [Bool.eq_iff_iff, decide_eq_true_iff, decide_eq_true_iff]; omega

theorem rParts_c (x : Nat) (hx : x < 18446744073709551616) (hf : finB x = true) (w : World) :
    Calls Tryd.prog 21 #[.float .f64 x] w fun e w' => e = .returned (.tuple #[.bool (sgn x), .int .u64 (partM x), .int .i64 (partE x)]) ∧ w = w' := by
  have hr := (finB_true x).1 hf
  have hi : ¬ isn x := by unfold isn; omega
  have hnb : (!decide (isn x) && sgn x) = sgn x := by simp [hi]
  have h1 := pm_mod x
  have h3 := nor_geq x
  by_cases h0 : rung x = 0
  · have hz : ((rung x : Int) == 0) = true := by rw [h0]; rfl
    have em : partM x = 0 := by unfold partM; rw [if_pos h0]
    have ee : partE x = 0 := by unfold partE; rw [if_pos h0]
    go_enter Tryd.func21, Tryd.ntmps21
    go_wp2_with (first | (go_at_call 41; refine (rsize_c _ _).mono ?_; rintro e w' ⟨rfl, rfl⟩) | (go_at_call 19; refine (rNeg_c _ hx _).mono ?_; rintro e w' ⟨rfl, rfl⟩))
    refine bodyPost_ret (v := .tuple #[.bool (sgn x), .int .u64 (partM x), .int .i64 (partE x)]) ?_ rfl ⟨rfl, rfl⟩
    simp [results, Tryd.results21, go_sem, em, ee, hnb]
  · have hz : ((rung x : Int) == 0) = false := by rw [beq_eq_false_iff_ne]; omega
    have hq := pm_lt x
    have hpp := pm_pos h0
    by_cases hn : rung x < 4503599627370496
    · have hd : norB x = false := by unfold norB; rw [decide_eq_false_iff_not]; omega
      go_enter Tryd.func21, Tryd.ntmps21
      go_wp2_with (first | (go_at_call 41; refine (rsize_c _ _).mono ?_; rintro e w' ⟨rfl, rfl⟩) | (go_at_call 19; refine (rNeg_c _ hx _).mono ?_; rintro e w' ⟨rfl, rfl⟩))
      go_loop [6, 7] (fun m e => ∃ (q : Nat) (ex : Int), 0 < q ∧ q < 9007199254740992 ∧ Hid (od q = partM x) ∧ Hid (ex + tz q = partE x) ∧ -2000 ≤ ex ∧ ex ≤ 10000 + (64 - tz q) ∧ m = .int .u64 q ∧ e = .int .i64 ex) (fun m _ => (intOf m).toNat)
      case atStart => exact ⟨pm x, _, hpp, hq, Lib.hid (partM_od h0).symm, Lib.hid (by rw [partE_eq h0, pex_sub hn]; unfold tz; omega), by omega, by have := (tz_spec hpp (by omega)).2.2; omega, by rw [pm_sub hn], rfl⟩
      case round =>
        obtain ⟨q, ex, hq0, hq1, H1, H2, hl, hu, rfl, rfl⟩ := hrel
        by_cases ho : q % 2 = 1
        · have ht : ((q : Int) % 2 == 0) = false := by rw [beq_eq_false_iff_ne]; omega
          go_wp2_with (first | (go_at_call 19; refine (rNeg_c _ hx _).mono ?_; rintro e w' ⟨rfl, rfl⟩))
          refine bodyPost_ret (v := .tuple #[.bool (sgn x), .int .u64 (partM x), .int .i64 (partE x)]) ?_ rfl ⟨rfl, rfl⟩
          have e1 := H1.out; have e2 := H2.out
          rw [od_odd ho] at e1; rw [tz_odd ho] at e2
          simp [results, Tryd.results21, go_sem, hnb, ← e1, ← e2]
        · have ht : ((q : Int) % 2 == 0) = true := by rw [beq_iff_eq]; omega
          have e3 := tz_even hq0 (by omega) (by omega)
          have H3 := Lib.hid e3; clear e3
          go_wp2
          go_round
          case rel => exact ⟨q / 2, ex + 1, by omega, by omega, Lib.hid (by rw [← od_even hq0 (by omega) (by omega)]; exact H1.out), Lib.hid (by have := H2.out; rw [H3.out] at this; omega), by omega, by have := H3.out; omega, by go_num, rfl⟩
          case measure => simp [intOf]; omega
    · have hd : norB x = true := by unfold norB; rw [decide_eq_true_iff]; omega
      have h2 := pm_add hn
      go_enter Tryd.func21, Tryd.ntmps21
      go_wp2_with (first | (go_at_call 41; refine (rsize_c _ _).mono ?_; rintro e w' ⟨rfl, rfl⟩) | (go_at_call 19; refine (rNeg_c _ hx _).mono ?_; rintro e w' ⟨rfl, rfl⟩))
      go_loop [6, 7] (fun m e => ∃ (q : Nat) (ex : Int), 0 < q ∧ q < 9007199254740992 ∧ Hid (od q = partM x) ∧ Hid (ex + tz q = partE x) ∧ -2000 ≤ ex ∧ ex ≤ 10000 + (64 - tz q) ∧ m = .int .u64 q ∧ e = .int .i64 ex) (fun m _ => (intOf m).toNat)
      case atStart => exact ⟨pm x, _, hpp, hq, Lib.hid (partM_od h0).symm, Lib.hid (by rw [partE_eq h0, pex_nor hn]; unfold tz; omega), by omega, by have := (tz_spec hpp (by omega)).2.2; omega, rfl, rfl⟩
      case round =>
        obtain ⟨q, ex, hq0, hq1, H1, H2, hl, hu, rfl, rfl⟩ := hrel
        by_cases ho : q % 2 = 1
        · have ht : ((q : Int) % 2 == 0) = false := by rw [beq_eq_false_iff_ne]; omega
          go_wp2_with (first | (go_at_call 19; refine (rNeg_c _ hx _).mono ?_; rintro e w' ⟨rfl, rfl⟩))
          refine bodyPost_ret (v := .tuple #[.bool (sgn x), .int .u64 (partM x), .int .i64 (partE x)]) ?_ rfl ⟨rfl, rfl⟩
          have e1 := H1.out; have e2 := H2.out
          rw [od_odd ho] at e1; rw [tz_odd ho] at e2
          simp [results, Tryd.results21, go_sem, hnb, ← e1, ← e2]
        · have ht : ((q : Int) % 2 == 0) = true := by rw [beq_iff_eq]; omega
          have e3 := tz_even hq0 (by omega) (by omega)
          have H3 := Lib.hid e3; clear e3
          go_wp2
          go_round
          case rel => exact ⟨q / 2, ex + 1, by omega, by omega, Lib.hid (by rw [← od_even hq0 (by omega) (by omega)]; exact H1.out), Lib.hid (by have := H2.out; rw [H3.out] at this; omega), by omega, by have := H3.out; omega, by go_num, rfl⟩
          case measure => simp [intOf]; omega
end Go.Proofs.YtbmfbmepgcbhfaaDoor
