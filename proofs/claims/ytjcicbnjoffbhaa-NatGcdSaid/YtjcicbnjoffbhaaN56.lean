/- Contract of package limb: digit. -/
import Derived.Test.YtjcicbnjoffbhaaN23
import Derived.Test.YtjcicbnjoffbhaaN55
set_option linter.unusedSimpArgs false
set_option linter.unusedVariables false
namespace Go.Proofs.Ytjcicbnjoffbhaa
open Go Go.RowKit Nt

theorem addc64 (x y : Nat) : ∃ s c : Nat, (∀ w, (callFunc 95 #[.int .u64 (x : Nat), .int .u64 (y : Nat), .int .u64 0]).run Try.prog w = .ok (.value (.tuple #[.int .u64 (s : Nat), .int .u64 (c : Nat)])) w) ∧
    s = (x + y) % 18446744073709551616 ∧ c = (x + y) / 18446744073709551616 :=
  ⟨_, _, fun w => Try.bits_Add64 x y 0 (by omega) w, by rw [Nat.add_zero], by rw [Nat.add_zero]⟩
theorem mul_two (x y : Nat) (hx : x < 18446744073709551616) (hy : y < 18446744073709551616) : ∃ hi lo : Nat, (∀ w, Calls Try.prog 75 #[.int .u64 (x : Nat), .int .u64 (y : Nat)] w fun e w' => e = .returned (.tuple #[.int .u64 (hi : Nat), .int .u64 (lo : Nat)]) ∧ w = w') ∧
    hi = x * y / W ∧ lo = x * y % W := by
  refine ⟨x * y / 18446744073709551616, x * y % 18446744073709551616, fun w => ?_, by rw [W_eq], by rw [W_eq]⟩
  refine (Try.bits_Mul64 x y hx hy w).mono ?_
  rintro e w' ⟨rfl, rfl⟩; exact ⟨rfl, rfl⟩
theorem div_two (hi lo y : Nat) (hhy : hi < y) (hy : y < 18446744073709551616) (hlo : lo < 18446744073709551616) : ∃ q r : Nat, (∀ w, Calls Try.prog 106 #[.int .u64 (hi : Nat), .int .u64 (lo : Nat), .int .u64 (y : Nat)] w fun e w' => e = .returned (.tuple #[.int .u64 (q : Nat), .int .u64 (r : Nat)]) ∧ ∃ n, w' = w.drewN n) ∧
    q = (hi * W + lo) / y ∧ r = (hi * W + lo) % y :=
  ⟨_, _, fun w => Div64_c hi lo y w hhy hy hlo, by rw [W_eq], by rw [W_eq]⟩
set_option maxRecDepth 100000 in
theorem Digit_top (u2 u1 u0 v1 v0 : Nat) (w : World) (h : v1 ≤ u2) :
    Calls Try.prog 99 #[.int .u64 (u2 : Nat), .int .u64 (u1 : Nat), .int .u64 (u0 : Nat), .int .u64 (v1 : Nat), .int .u64 (v0 : Nat)] w fun e w' => e = .returned (.int .u64 (guessN u2 u1 u0 v1 v0 : Nat)) ∧ Drawn w w' := by
  have hg : ((guessN u2 u1 u0 v1 v0 : Nat) : Int) = 18446744073709551615 := by unfold guessN; rw [if_pos h, W_eq]; rfl
  have HG := Lib.hid hg
  have h2 : (v1 : Int) ≤ (u2 : Int) := by omega
  clear hg
  go_enter Try.func99, Try.ntmps99
  go_wp2_with fail
  go_ret
  exact ⟨by rw [HG.out]; rfl, Drawn.refl _⟩
set_option maxRecDepth 100000 in
set_option maxHeartbeats 1000000 in
theorem Digit_c (u2 u1 u0 v1 v0 : Nat) (w : World) (h : u2 < v1) (hv1 : v1 < 18446744073709551616) (hu1 : u1 < 18446744073709551616) (hu0 : u0 < 18446744073709551616) (hv0 : v0 < 18446744073709551616) :
    Calls Try.prog 99 #[.int .u64 (u2 : Nat), .int .u64 (u1 : Nat), .int .u64 (u0 : Nat), .int .u64 (v1 : Nat), .int .u64 (v0 : Nat)] w fun e w' => e = .returned (.int .u64 (guessN u2 u1 u0 v1 v0 : Nat)) ∧ Drawn w w' := by
  have hg : guessN u2 u1 u0 v1 v0 = ((u2 * W + u1) * W + u0) / (v1 * W + v0) := by unfold guessN; rw [if_neg (by omega)]
  obtain ⟨q0, r0, hdiv, hq0, hr0⟩ := div_two u2 u1 v1 h hv1 hu1
  have hw := W_eq
  have hfirst := gue_first (u2 := u2) (u1 := u1) (u0 := u0) (v1 := v1) (v0 := v0) h (by omega) (by omega)
  rw [← hq0, ← hr0] at hfirst
  have hr0v : r0 < v1 := by rw [hr0]; exact Nat.mod_lt _ (by omega)
  have HG := Lib.hid hg
  have KD := Lib.hid hdiv
  have HF := Lib.hid hfirst
  have HR0 := Lib.hid (show r0 < 18446744073709551616 by omega)
  have HV1 := Lib.hid hv1
  have HV1P := Lib.hid (show 0 < v1 by omega)
  have HV0 := Lib.hid hv0
  have HU0 := Lib.hid hu0
  have h2 : ¬ (v1 : Int) ≤ (u2 : Int) := by omega
  clear hg hdiv hq0 hr0 hw hfirst hr0v hv1 hu1 hu0 hv0 h
  go_enter Try.func99, Try.ntmps99
  go_wp2_with fail
  refine (KD.out _).mono ?_
  rintro e w1 ⟨rfl, nn, rfl⟩
  have hdr : Drawn w (w.drewN nn) := ⟨nn, rfl⟩
  generalize w.drewN nn = w1 at *
  have HDR := Lib.hid hdr
  clear hdr
  go_wp2_with fail
  go_loopw [11, 12] (fun x y wr => ∃ q r : Nat, x = .int .u64 q ∧ y = .int .u64 r ∧ Hid (gueI u2 u1 u0 v1 v0 q r) ∧ Hid (r < 18446744073709551616) ∧ w1 = wr) (fun x _ _ => (intOf x).toNat)
  case atStart => exact ⟨q0, r0, rfl, rfl, HF, HR0, rfl⟩
  case round =>
    obtain ⟨q, r, rfl, rfl, hgu, hr, rfl⟩ := hrel
    have hqW : q < 18446744073709551616 := by have := hgu.out.2.2; have := W_eq; omega
    obtain ⟨hi, lo, hmul, hhi, hlo⟩ := mul_two q v0 hqW HV0.out
    have KM := Lib.hid hmul
    have htw := two_words (p := q * v0) (r := r) (u0 := u0) (by have := HU0.out; have := W_eq; omega)
    rw [← hhi, ← hlo] at htw
    by_cases ht : q * v0 ≤ r * W + u0
    · have hq := gue_done hgu.out HV1P.out ht
      have HQ := Lib.hid (HG.out.trans hq.symm)
      have hc := htw.1 ht
      have hc2 : hi < r ∨ (¬ hi < r ∧ hi = r ∧ lo ≤ u0) := by
        rcases hc with c | ⟨c, d⟩
        · exact Or.inl c
        · exact Or.inr ⟨by omega, c, d⟩
      clear hmul htw ht hq hc hhi hlo hqW
      rcases hc2 with c | ⟨c1, rfl, c3⟩
      all_goals
        go_wp2_with fail
        refine (KM.out _).mono ?_
        rintro e w2 ⟨rfl, rfl⟩
        go_wp2_with fail
        go_ret
        exact ⟨by rw [HQ.out]; rfl, HDR.out⟩
    · obtain ⟨hq0, hnext⟩ := gue_next hgu.out HV1P.out (by omega)
      have hc2 : ¬ hi < r ∧ (¬ hi = r ∨ (hi = r ∧ ¬ lo ≤ u0)) := by
        refine ⟨fun c => ht (htw.2 (Or.inl c)), ?_⟩
        by_cases c : hi = r
        · exact Or.inr ⟨c, fun d => ht (htw.2 (Or.inr ⟨c, d⟩))⟩
        · exact Or.inl c
      obtain ⟨s, c, hadd, hs, hcc⟩ := addc64 r v1
      obtain ⟨x, rfl⟩ : ∃ x, q = x + 1 := ⟨q - 1, by omega⟩
      rw [Nat.add_sub_cancel] at hnext
      have hwx : IntKind.u64.wrap ((x : Int) + 1 - 1) = (x : Int) := by rw [IntKind.wrap_u64]; omega
      have hwx2 : IntKind.u64.wrap (x : Int) = (x : Int) := by rw [IntKind.wrap_u64]; omega
      have hrr := hr.out
      have hvv := HV1.out
      obtain ⟨hnr, hc3⟩ := hc2
      have HN := Lib.hid hnext
      by_cases hcz : c = 0
      · have hsv : s = r + v1 := by omega
        have HS := Lib.hid hsv
        have HSB : Hid (s < 18446744073709551616) := Lib.hid (by omega)
        subst hcz
        clear hmul htw ht hhi hlo hs hcc hrr hvv hqW hnext hq0 hsv
        rcases hc3 with c1 | ⟨rfl, c2⟩
        case' inl =>
          have c1' : ((hi : Int) == (r : Int)) = false := by rw [beq_eq_false_iff_ne]; omega
        all_goals
          go_wp2_with fail
          refine (KM.out _).mono ?_
          rintro e w2 ⟨rfl, rfl⟩
          go_wp2_with (first | simp only [hadd])
          go_roundw
          case rel => exact ⟨x, s, rfl, rfl, by rw [HS.out]; exact HN, HSB, trivial⟩
          case measure => simp [intOf]; try omega
      · have hfull := gue_full (u0 := u0) (q := x) (v0 := v0) (r := r + v1) (by have := W_eq; omega) (by have := W_eq; have := HV0.out; omega) (by have := W_eq; omega)
        have hq := gue_done hnext HV1P.out hfull
        have HQ := Lib.hid (HG.out.trans hq.symm)
        have hcn : (((c : Nat) : Int) != 0) = true := by rw [bne_iff_ne]; omega
        have HC := Lib.hid hcz
        clear hmul htw ht hhi hlo hs hcc hrr hvv hqW hnext hq0 hfull hq hcz
        rcases hc3 with c1 | ⟨rfl, c2⟩
        case' inl =>
          have c1' : ((hi : Int) == (r : Int)) = false := by rw [beq_eq_false_iff_ne]; omega
        all_goals
          go_wp2_with fail
          refine (KM.out _).mono ?_
          rintro e w2 ⟨rfl, rfl⟩
          go_wp2_with (first | simp only [hadd])
          go_ret
          exact ⟨by rw [HQ.out]; rfl, HDR.out⟩
theorem Digit_all (u2 u1 u0 v1 v0 : Nat) (w : World) (hv1 : v1 < 18446744073709551616) (hu1 : u1 < 18446744073709551616) (hu0 : u0 < 18446744073709551616) (hv0 : v0 < 18446744073709551616) :
    Calls Try.prog 99 #[.int .u64 (u2 : Nat), .int .u64 (u1 : Nat), .int .u64 (u0 : Nat), .int .u64 (v1 : Nat), .int .u64 (v0 : Nat)] w fun e w' => e = .returned (.int .u64 (guessN u2 u1 u0 v1 v0 : Nat)) ∧ Drawn w w' := by
  by_cases h : v1 ≤ u2
  · exact Digit_top u2 u1 u0 v1 v0 w h
  · exact Digit_c u2 u1 u0 v1 v0 w (by omega) hv1 hu1 hu0 hv0
end Go.Proofs.Ytjcicbnjoffbhaa
