/- Contract of the document: Pow. -/
import Derived.Test.YtjcicbnjoffbhaaN46
import Derived.Test.YtjcicbnjoffbhaaN35
set_option linter.unusedSimpArgs false
set_option linter.unusedVariables false
namespace Go.Proofs.Ytjcicbnjoffbhaa
open Go Go.RowKit Nt

theorem fits_mono {x y : Nat} (h : x ≤ y) (hy : fits y) : fits x := Nat.le_trans (nd_mono (by omega) h) hy
theorem pow_part {a n m : Nat} (ha : a ≠ 0) : a ^ (n / 2 ^ (m + 1)) * a ^ (n / 2 ^ (m + 1)) ≤ a ^ n := by
  rw [← Nat.pow_add]
  refine Nat.pow_le_pow_right (by omega) ?_
  have h := half_step n m
  have h2 := Nat.div_le_self n (2 ^ m)
  omega
theorem pow_down {a n m : Nat} (ha : a ≠ 0) : a ^ (n / 2 ^ m) ≤ a ^ n := Nat.pow_le_pow_right (by omega) (Nat.div_le_self _ _)
set_option maxRecDepth 100000 in
theorem rPow_neg (s : ByteArray) (n : Int) (w : World) (h : n < 0) :
    Calls Try.prog 48 #[.string s, .int .i64 n] w (StrPost ⟨#[]⟩ 2 w) := by
  go_enter Try.func48, Try.ntmps48
  go_wp2_with fail
  go_ret2
  exact ⟨rfl, Below.refl _ _⟩
set_option maxRecDepth 100000 in
theorem rPow_zero (s : ByteArray) (w : World) :
    Calls Try.prog 48 #[.string s, .int .i64 0] w (StrPost (natS 1) 0 w) := by
  rw [natS_1]
  go_enter Try.func48, Try.ntmps48
  go_wp2_with fail
  go_ret2
  exact ⟨rfl, Below.refl _ _⟩
set_option maxRecDepth 100000 in
theorem rPow_one (n : Int) (w : World) (h : ¬ n < 0) :
    Calls Try.prog 48 #[.string (natS 1), .int .i64 n] w (StrPost (natS 1) 0 w) := by
  rw [natS_1]
  by_cases h0 : n = 0
  · subst h0
    go_enter Try.func48, Try.ntmps48
    go_wp2_with fail
    go_ret2
    exact ⟨rfl, Below.refl _ _⟩
  · have h1 : (n == 0) = false := by rw [beq_eq_false_iff_ne]; exact h0
    go_enter Try.func48, Try.ntmps48
    go_wp2_with fail
    go_ret2
    exact ⟨rfl, Below.refl _ _⟩
set_option maxRecDepth 100000 in
theorem rPow_empty (n : Int) (w : World) (h : ¬ n < 0) (h0 : n ≠ 0) :
    Calls Try.prog 48 #[.string (natS 0), .int .i64 n] w (StrPost (natS 0) 0 w) := by
  rw [natS_zero]
  have h1 : (n == 0) = false := by rw [beq_eq_false_iff_ne]; exact h0
  go_enter Try.func48, Try.ntmps48
  go_wp2_with fail
  go_ret2
  exact ⟨rfl, Below.refl _ _⟩
theorem natS_ne_one {a : Nat} (h : a ≠ 1) : ¬ (natS a).toList = [1] := fun c => h (by
  have c2 : natS a = ⟨#[1]⟩ := by
    rw [ba_toList] at c
    apply ByteArray.ext
    apply Array.ext'
    exact c
  have e := congrArg bytesN (c2.trans natS_1.symm)
  rwa [bytesN_natS, bytesN_natS] at e)
theorem natS_ne_one2 {a : Nat} (h : a ≠ 1) : ((natS a).toList == [1]) = false := by rw [beq_eq_false_iff_ne]; exact natS_ne_one h
set_option maxRecDepth 100000 in
theorem rPow_long (a : Nat) (n : Int) (w : World) (ha : a ≠ 0) (ha1 : a ≠ 1) (h : 131072 < n) :
    Calls Try.prog 48 #[.string (natS a), .int .i64 n] w (StrPost ⟨#[]⟩ 4 w) := by
  have h1 : (n == 0) = false := by rw [beq_eq_false_iff_ne]; omega
  have h2 : ¬ n < 0 := by omega
  have hE := natS_full ha
  have hE2 := natS_full2 ha
  have hN := natS_ne_one ha1
  have hN2 := natS_ne_one2 ha1
  clear ha ha1
  go_enter Try.func48, Try.ntmps48
  go_wp2_with fail
  go_ret2
  exact ⟨rfl, Below.refl _ _⟩
set_option maxRecDepth 100000 in
set_option maxHeartbeats 2000000 in
theorem rPow_c (a : Nat) (n : Nat) (w : World) (hf : fits a) (ha : a ≠ 0) (ha1 : a ≠ 1) (hn0 : n ≠ 0) (hn : n ≤ 131072) :
    Calls Try.prog 48 #[.string (natS a), .int .i64 (n : Nat)] w (StrPost (resS (a ^ n)) (resE (a ^ n)) w) := by
  obtain ⟨N, hN⟩ : ∃ N : Int, N = (n : Int) := ⟨_, rfl⟩
  have h1 : (N == 0) = false := by rw [beq_eq_false_iff_ne]; omega
  have h2 : ¬ N < 0 := by omega
  have h3 : ¬ 131072 < N := by omega
  have hE := natS_full ha
  have hE2 := natS_full2 ha
  have hN1 := natS_ne_one ha1
  have hN2 := natS_ne_one2 ha1
  have hqq : ∀ m : Nat, N / 2 ^ m = ((n / 2 ^ m : Nat) : Int) := fun m => by rw [hN, int_pow2, Int.natCast_ediv]
  have HQQ := Lib.hid hqq
  have HF := Lib.hid hf
  have HA := Lib.hid ha
  have HNN := Lib.hid hn
  have hfa : nd 256 a ≤ 16384 := hf
  have h18 : n / 2 ^ 18 = 0 := Nat.div_eq_of_lt (by have : (2 : Nat) ^ 18 = 262144 := by decide
                                                    omega)
  have H18 := Lib.hid h18
  have HF1 := Lib.hid (show fits 1 by unfold fits; rw [nd_step (by omega) (by omega), show 1 / 256 = 0 by rfl, nd_zero]; omega)
  rw [← hN]
  clear hqq ha ha1 hn0 hn hf hfa h18 hN
  go_enter Try.func48, Try.ntmps48
  go_wp2_with fail
  go_loopw [6, 7] (fun x i wr => ∃ (k : Nat) (z : Int), k ≤ 18 ∧ i = .int .i64 z ∧ Hid (z = (k : Int) - 1) ∧ x = .string (natS (a ^ (n / 2 ^ k))) ∧ Hid (fits (a ^ (n / 2 ^ k))) ∧ Below w.heap.size w wr) (fun _ i _ => (intOf i + 1).toNat)
  case atStart => exact ⟨18, 17, by omega, rfl, Lib.hid (by omega), by rw [H18.out, Nat.pow_zero, natS_1], by rw [H18.out, Nat.pow_zero]; exact HF1, Below.refl _ _⟩
  case round =>
    obtain ⟨k, z, hk, rfl, hz, rfl, hfit, hbw⟩ := hrel
    by_cases hk0 : k = 0
    · subst hk0
      obtain rfl : z = -1 := by have := hz.out; omega
      have e : a ^ (n / 2 ^ 0) = a ^ n := by rw [Nat.pow_zero, Nat.div_one]
      rw [e] at hfit ⊢
      have HS := Lib.hid (resS_ok hfit.out)
      have HE := Lib.hid (resE_ok hfit.out)
      clear e
      go_wp2_with fail
      go_ret2
      exact ⟨by rw [HS.out, HE.out]; rfl, hbw⟩
    · obtain ⟨m, rfl⟩ : ∃ m, k = m + 1 := ⟨k - 1, by omega⟩
      obtain rfl : z = (m : Int) := by have := hz.out; omega
      obtain ⟨q, hq⟩ : ∃ q, q = n / 2 ^ m := ⟨_, rfl⟩
      have hqI := HQQ.out m
      rw [← hq] at hqI
      have hq2 : q ≤ 131072 := by rw [hq]; exact Nat.le_trans (Nat.div_le_self _ _) HNN.out
      have hand := and_one_i64 q (by omega)
      have hw3 : wrap64 ((m : Int) - 1) = (m : Int) - 1 := IntWalk.wrap64_in _ (by omega)
      have hm15 : (m : Int) ≤ 17 := by omega
      obtain ⟨X, hX⟩ : ∃ X, X = a ^ (n / 2 ^ (m + 1)) := ⟨_, rfl⟩
      have hpart := pow_part (a := a) (n := n) (m := m) HA.out
      have hdown := pow_down (a := a) (n := n) (m := m) HA.out
      have hpe := fun h => pow_even (a := a) (n := n) (m := m) h
      have hpo := fun h => pow_odd (a := a) (n := n) (m := m) h
      rw [← hX] at hpart hpe hpo hfit ⊢
      rw [← hq] at hpe hpo hdown
      have hXf : nd 256 X ≤ 16384 := hfit.out
      have hAf : nd 256 a ≤ 16384 := HF.out
      have KM := Lib.hid (fun w => rMul_c X X w (by omega) (by omega) (fun h => ⟨fun c => by rw [c, nd_zero] at h; omega, fun c => by rw [c, nd_zero] at h; omega⟩))
      have HPE := Lib.hid hpe
      have HPO := Lib.hid hpo
      have HPART := Lib.hid hpart
      have HDOWN := Lib.hid hdown
      have HQ := Lib.hid hq
      have HX := Lib.hid hX
      clear hpart hdown hpe hpo hq hX hXf hq2
      by_cases hsq : fits (X * X)
      · have KM2 := KM
        rw [resS_ok hsq, resE_ok hsq] at KM2
        have HSQ := Lib.hid hsq
        have hsn : nd 256 (X * X) ≤ 16384 := hsq
        have KM3 := Lib.hid (fun w => rMul_c (X * X) a w (by omega) (by omega) (fun h => ⟨fun c => by rw [c, nd_zero] at h; omega, fun c => by rw [c, nd_zero] at h; omega⟩))
        clear KM hsq hsn hAf
        rcases Nat.mod_two_eq_zero_or_one q with hb0 | hb0
        · rw [hb0] at hand
          have HP := Lib.hid (HPE.out hb0)
          have HFN := Lib.hid (show fits (a ^ q) by rw [← HP.out]; exact HSQ.out)
          clear hb0
          go_wp2_with fail
          refine (KM2.out _).mono ?_
          rw [HP.out]
          rintro e w3 ⟨rfl, hb3⟩
          go_wp2_with fail
          go_roundw
          case rel => exact ⟨m, _, by omega, rfl, Lib.hid rfl, by rw [HQ.out], by rw [← HQ.out]; exact HFN, below_chain hbw hb3⟩
          case measure => simp [intOf]; try omega
        · rw [hb0] at hand
          have hp := HPO.out hb0
          by_cases hcu : fits (X * X * a)
          · rw [resS_ok hcu, resE_ok hcu] at KM3
            rw [hp] at KM3 hcu
            have HFN := Lib.hid hcu
            clear hb0 hp hcu
            go_wp2_with fail
            refine (KM2.out _).mono ?_
            rintro e w3 ⟨rfl, hb3⟩
            go_wp2_with fail
            refine (KM3.out _).mono ?_
            rintro e w4 ⟨rfl, hb4⟩
            go_wp2_with fail
            go_roundw
            case rel => exact ⟨m, _, by omega, rfl, Lib.hid rfl, by rw [HQ.out], by rw [← HQ.out]; exact HFN, below_chain hbw (below_chain hb3 hb4)⟩
            case measure => simp [intOf]; try omega
          · rw [resS_no hcu, resE_no hcu] at KM3
            have hno : ¬ fits (a ^ n) := fun c => hcu (by rw [hp]; exact fits_mono HDOWN.out c)
            have HS := Lib.hid (resS_no hno)
            have HE := Lib.hid (resE_no hno)
            clear hb0 hp hcu hno
            go_wp2_with fail
            refine (KM2.out _).mono ?_
            rintro e w3 ⟨rfl, hb3⟩
            go_wp2_with fail
            refine (KM3.out _).mono ?_
            rintro e w4 ⟨rfl, hb4⟩
            go_wp2_with fail
            go_ret2
            exact ⟨by rw [HS.out, HE.out]; rfl, below_chain hbw (below_chain hb3 hb4)⟩
      · rw [resS_no hsq, resE_no hsq] at KM
        have hno : ¬ fits (a ^ n) := fun c => hsq (fits_mono HPART.out c)
        have HS := Lib.hid (resS_no hno)
        have HE := Lib.hid (resE_no hno)
        clear hsq hno hAf
        go_wp2_with fail
        refine (KM.out _).mono ?_
        rintro e w3 ⟨rfl, hb3⟩
        go_wp2_with fail
        go_ret2
        exact ⟨by rw [HS.out, HE.out]; rfl, below_chain hbw hb3⟩
end Go.Proofs.Ytjcicbnjoffbhaa
