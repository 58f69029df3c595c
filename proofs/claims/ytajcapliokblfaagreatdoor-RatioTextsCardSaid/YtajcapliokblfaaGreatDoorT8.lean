/- Texts put together: N50 P62 P63 P64 P65 Post PP. -/
import Derived.Test.YtajcapliokblfaaGreatDoorT5
import Derived.Test.YtajcapliokblfaaGreatDoorT2
import Derived.Test.YtajcapliokblfaaGreatDoorT7
import Derived.Test.YtajcapliokblfaaGreatDoorT6
import Derived.Below
import Derived.ChangeSame
import Derived.Test.YtajcapliokblfaaGreatDoorRows
import Derived.Test.YtajcapliokblfaaGreatDoorT3
import Derived.ProofKit
import Derived.Lib.SmallJoins
import Derived.OpenShut
import Derived.ShutString
set_option linter.unusedSimpArgs false
set_option linter.unusedVariables false
namespace Go.Proofs.YtajcapliokblfaaGreatDoor
open Go Go.RowKit Nt
theorem fits_mono {x y : Nat} (h : x ≤ y) (hy : fits y) : fits x := Nat.le_trans (nd_mono (by omega) h) hy
theorem pow_part {a n m : Nat} (ha : a ≠ 0) : a ^ (n / 2 ^ (m + 1)) * a ^ (n / 2 ^ (m + 1)) ≤ a ^ n := by
  rw [← Nat.pow_add]
  refine Nat.pow_le_pow_right (by omega) ?_
  have h := half_step n m
  have h2 := Nat.div_le_self n (2 ^ m)
  omega
theorem pow_down {a n m : Nat} (ha : a ≠ 0) : a ^ (n / 2 ^ m) ≤ a ^ n := Nat.pow_le_pow_right (by omega) (Nat.div_le_self _ _)
set_option maxRecDepth 100000 in
theorem rPow_zero (s : ByteArray) (w : World) :
    Calls Tryz.prog 105 #[.string s, .int .i64 0] w (StrPost (natS 1) 0 w) := by
  rw [natS_1]
  go_enter Tryz.func105, Tryz.ntmps105
  go_wp2_with fail
  go_ret2
  exact ⟨rfl, Below.refl _ _⟩
theorem natS_ne_one {a : Nat} (h : a ≠ 1) : ¬ (natS a).toList = [1] := fun c => h (by
  have c2 : natS a = ⟨#[1]⟩ := by
    rw [ba_toList] at c
    apply ByteArray.ext
    apply Array.ext'
    exact c
  have e := congrArg bytesN (c2.trans natS_1.symm)
  rwa [bytesN_natS, bytesN_natS] at e)
theorem natS_ne_one2 {a : Nat} (h : a ≠ 1) : ((natS a).toList == [1]) = false := by rw [beq_eq_false_iff_ne]; exact natS_ne_one h
set_option maxRecDepth 100000 in
set_option maxHeartbeats 2000000 in
theorem rPow_c (a : Nat) (n : Nat) (w : World) (hf : fits a) (ha : a ≠ 0) (ha1 : a ≠ 1) (hn0 : n ≠ 0) (hn : n ≤ 131072) :
    Calls Tryz.prog 105 #[.string (natS a), .int .i64 (n : Nat)] w (StrPost (resS (a ^ n)) (resE (a ^ n)) w) := by
  obtain ⟨N, hN⟩ : ∃ N : Int, N = (n : Int) := ⟨_, rfl⟩
  have h1 : (N == 0) = false := by rw [beq_eq_false_iff_ne]; omega
  have h2 : ¬ N < 0 := by omega
  have h3 : ¬ 131072 < N := by omega
  have hE := natS_full ha
  have hE2 := natS_full2 ha
  have hN1 := natS_ne_one ha1
  have hN2 := natS_ne_one2 ha1
  have hqq : ∀ m : Nat, N / 2 ^ m = ((n / 2 ^ m : Nat) : Int) := fun m => by rw [hN, int_pow2, Int.natCast_ediv]
  have HQQ := Lib.hid hqq
  have HF := Lib.hid hf
  have HA := Lib.hid ha
  have HNN := Lib.hid hn
  have hfa : nd 256 a ≤ 16384 := hf
  have h18 : n / 2 ^ 18 = 0 := Nat.div_eq_of_lt (by have : (2 : Nat) ^ 18 = 262144 := by decide
                                                    omega)
  have H18 := Lib.hid h18
  have HF1 := Lib.hid (show fits 1 by unfold fits; rw [nd_step (by omega) (by omega), show 1 / 256 = 0 by rfl, nd_zero]; omega)
  rw [← hN]
  clear hqq ha ha1 hn0 hn hf hfa h18 hN
  go_enter Tryz.func105, Tryz.ntmps105
  go_wp2_with fail
  go_loopw [6, 7] (fun x i wr => ∃ (k : Nat) (z : Int), k ≤ 18 ∧ i = .int .i64 z ∧ Hid (z = (k : Int) - 1) ∧ x = .string (natS (a ^ (n / 2 ^ k))) ∧ Hid (fits (a ^ (n / 2 ^ k))) ∧ Below w.heap.size w wr) (fun _ i _ => (intOf i + 1).toNat)
  case atStart => exact ⟨18, 17, by omega, rfl, Lib.hid (by omega), by rw [H18.out, Nat.pow_zero, natS_1], by rw [H18.out, Nat.pow_zero]; exact HF1, Below.refl _ _⟩
  case round =>
    obtain ⟨k, z, hk, rfl, hz, rfl, hfit, hbw⟩ := hrel
    by_cases hk0 : k = 0
    · subst hk0
      obtain rfl : z = -1 := by have := hz.out; omega
      have e : a ^ (n / 2 ^ 0) = a ^ n := by rw [Nat.pow_zero, Nat.div_one]
      rw [e] at hfit ⊢
      have HS := Lib.hid (resS_ok hfit.out)
      have HE := Lib.hid (resE_ok hfit.out)
      clear e
      go_wp2_with fail
      go_ret2
      exact ⟨by rw [HS.out, HE.out]; rfl, hbw⟩
    · obtain ⟨m, rfl⟩ : ∃ m, k = m + 1 := ⟨k - 1, by omega⟩
      obtain rfl : z = (m : Int) := by have := hz.out; omega
      obtain ⟨q, hq⟩ : ∃ q, q = n / 2 ^ m := ⟨_, rfl⟩
      have hqI := HQQ.out m
      rw [← hq] at hqI
      have hq2 : q ≤ 131072 := by rw [hq]; exact Nat.le_trans (Nat.div_le_self _ _) HNN.out
      have hand := and_one_i64 q (by omega)
      have hw3 : wrap64 ((m : Int) - 1) = (m : Int) - 1 := IntWalk.wrap64_in _ (by omega)
      have hm15 : (m : Int) ≤ 17 := by omega
      obtain ⟨X, hX⟩ : ∃ X, X = a ^ (n / 2 ^ (m + 1)) := ⟨_, rfl⟩
      have hpart := pow_part (a := a) (n := n) (m := m) HA.out
      have hdown := pow_down (a := a) (n := n) (m := m) HA.out
      have hpe := fun h => pow_even (a := a) (n := n) (m := m) h
      have hpo := fun h => pow_odd (a := a) (n := n) (m := m) h
      rw [← hX] at hpart hpe hpo hfit ⊢
      rw [← hq] at hpe hpo hdown
      have hXf : nd 256 X ≤ 16384 := hfit.out
      have hAf : nd 256 a ≤ 16384 := HF.out
      have KM := Lib.hid (fun w => rMul_c X X w (by omega) (by omega) (fun h => ⟨fun c => by rw [c, nd_zero] at h; omega, fun c => by rw [c, nd_zero] at h; omega⟩))
      have HPE := Lib.hid hpe
      have HPO := Lib.hid hpo
      have HPART := Lib.hid hpart
      have HDOWN := Lib.hid hdown
      have HQ := Lib.hid hq
      have HX := Lib.hid hX
      clear hpart hdown hpe hpo hq hX hXf hq2
      by_cases hsq : fits (X * X)
      · have KM2 := KM
        rw [resS_ok hsq, resE_ok hsq] at KM2
        have HSQ := Lib.hid hsq
        have hsn : nd 256 (X * X) ≤ 16384 := hsq
        have KM3 := Lib.hid (fun w => rMul_c (X * X) a w (by omega) (by omega) (fun h => ⟨fun c => by rw [c, nd_zero] at h; omega, fun c => by rw [c, nd_zero] at h; omega⟩))
        clear KM hsq hsn hAf
        rcases Nat.mod_two_eq_zero_or_one q with hb0 | hb0
        · rw [hb0] at hand
          have HP := Lib.hid (HPE.out hb0)
          have HFN := Lib.hid (show fits (a ^ q) by rw [← HP.out]; exact HSQ.out)
          clear hb0
          go_wp2_with fail
          refine (KM2.out _).mono ?_
          rw [HP.out]
          rintro e w3 ⟨rfl, hb3⟩
          go_wp2_with fail
          go_roundw
          case rel => exact ⟨m, _, by omega, rfl, Lib.hid rfl, by rw [HQ.out], by rw [← HQ.out]; exact HFN, below_chain hbw hb3⟩
          case measure => simp [intOf]; try omega
        · rw [hb0] at hand
          have hp := HPO.out hb0
          by_cases hcu : fits (X * X * a)
          · rw [resS_ok hcu, resE_ok hcu] at KM3
            rw [hp] at KM3 hcu
            have HFN := Lib.hid hcu
            clear hb0 hp hcu
            go_wp2_with fail
            refine (KM2.out _).mono ?_
            rintro e w3 ⟨rfl, hb3⟩
            go_wp2_with fail
            refine (KM3.out _).mono ?_
            rintro e w4 ⟨rfl, hb4⟩
            go_wp2_with fail
            go_roundw
            case rel => exact ⟨m, _, by omega, rfl, Lib.hid rfl, by rw [HQ.out], by rw [← HQ.out]; exact HFN, below_chain hbw (below_chain hb3 hb4)⟩
            case measure => simp [intOf]; try omega
          · rw [resS_no hcu, resE_no hcu] at KM3
            have hno : ¬ fits (a ^ n) := fun c => hcu (by rw [hp]; exact fits_mono HDOWN.out c)
            have HS := Lib.hid (resS_no hno)
            have HE := Lib.hid (resE_no hno)
            clear hb0 hp hcu hno
            go_wp2_with fail
            refine (KM2.out _).mono ?_
            rintro e w3 ⟨rfl, hb3⟩
            go_wp2_with fail
            refine (KM3.out _).mono ?_
            rintro e w4 ⟨rfl, hb4⟩
            go_wp2_with fail
            go_ret2
            exact ⟨by rw [HS.out, HE.out]; rfl, below_chain hbw (below_chain hb3 hb4)⟩
      · rw [resS_no hsq, resE_no hsq] at KM
        have hno : ¬ fits (a ^ n) := fun c => hsq (fits_mono HPART.out c)
        have HS := Lib.hid (resS_no hno)
        have HE := Lib.hid (resE_no hno)
        clear hsq hno hAf
        go_wp2_with fail
        refine (KM.out _).mono ?_
        rintro e w3 ⟨rfl, hb3⟩
        go_wp2_with fail
        go_ret2
        exact ⟨by rw [HS.out, HE.out]; rfl, below_chain hbw hb3⟩
end Go.Proofs.YtajcapliokblfaaGreatDoor
namespace Go.Proofs.YtajcapliokblfaaGreatDoor
open Go Go.RowKit Nt Go.Lib
def strSz : Value → Nat
  | .string s => s.size
  | _ => 0
set_option maxRecDepth 100000 in
set_option maxHeartbeats 4000000 in
theorem rDec4_long (s : ByteArray) (w : World) (hs : 4096 < s.size) (hz : s.size ≤ 9223372036854775807) : Calls Tryz.prog 48 #[.string s] w fun e w' => e = .returned (.tuple #[.agg #[.bool false, .string ⟨#[]⟩, .string ⟨#[]⟩], .int .i64 4]) ∧ Below w.heap.size w w' := by
  have T0 := BR.start0 w false (.string ⟨#[]⟩) (.string ⟨#[]⟩) 24
  obtain ⟨q0, q1, q2, q3, q4, q5, q6⟩ := (Bx3.new w (.bool false) (.string ⟨#[]⟩) (.string ⟨#[]⟩) 24).facts
  have hfin := below_put3 T0.1 (Nat.le_refl _)
  go_enter Tryz.func48, Tryz.ntmps48
  go_wp2_with fail
  refine bodyPost_ret (v := .tuple #[.agg #[.bool false, .string ⟨#[]⟩, .string ⟨#[]⟩], .int .i64 4]) (by simp [results, Tryz.results48, go_sem, q0, q1, q2, q3]) rfl ⟨rfl, by first | exact T0.1 | exact hfin _ _ _ | exact (hfin _ _ _).alloc (by simp [World.setCell]) _⟩
set_option maxRecDepth 100000 in
set_option maxHeartbeats 4000000 in
theorem rDec4_bad (s u : ByteArray) (g : Bool) (w : World) (hs : s.size ≤ 4096)
    (way : (¬ 0 < s.size ∧ g = false ∧ u = s) ∨ (0 < s.size ∧ g = false ∧ u = s ∧ ∀ h : 0 < s.size, ((s[0].toNat : Int) == 45) = false) ∨ (0 < s.size ∧ g = true ∧ (∀ w, (Instr.slice 9 (.string s) (some (.int .i64 1)) none none).run Tryz.prog w = .ok (.string u) w) ∧ ∀ h : 0 < s.size, ((s[0].toNat : Int) == 45) = true))
    (KP : ∀ w, Calls Tryz.prog 104 #[.string u] w fun e w' => (∃ hd tl pw, e = .returned (.tuple #[.string hd, .string tl, .string pw, .bool false])) ∧ Below w.heap.size w w') :
    Calls Tryz.prog 48 #[.string s] w fun e w' => e = .returned (.tuple #[.agg #[.bool false, .string ⟨#[]⟩, .string ⟨#[]⟩], .int .i64 40]) ∧ Below w.heap.size w w' := by
  have K1 := Lib.hid KP
  clear KP
  have T0 := BR.start0 w false (.string ⟨#[]⟩) (.string ⟨#[]⟩) 24
  rcases way with ⟨h0, rfl, rfl⟩ | ⟨h0, rfl, rfl, h1⟩ | ⟨h0, rfl, r1, h1⟩
  case' inr.inl => have h1 := h1 h0
  case' inr.inr => have h1 := h1 h0
  all_goals
    go_enter Tryz.func48, Tryz.ntmps48
    go_wp2_with fail
    refine (K1.out _).mono ?_
    rintro ee w1 ⟨⟨hd, tl, pw, rfl⟩, hb⟩
    replace T0 := T0.step hb
    clear hb
    have HF := Lib.hid (below_put3 T0.1 (Nat.le_refl _))
    obtain ⟨q0, q1, q2, q3, q4, q5, q6⟩ := T0.res0
    go_wp2_with fail
    refine bodyPost_ret (v := .tuple #[.agg #[.bool false, .string ⟨#[]⟩, .string ⟨#[]⟩], .int .i64 40]) (by simp [results, Tryz.results48, go_sem, q0, q1, q2, q3]) rfl ⟨rfl, by first | exact HF.out _ _ _ | exact (HF.out _ _ _).alloc (by simp [World.setCell]; omega) _⟩
set_option maxRecDepth 100000 in
set_option maxHeartbeats 4000000 in
theorem rDec4_far_f (s u hd tl pw Pd : ByteArray) (g : Bool) (M : Nat) (w : World) (hs : s.size ≤ 4096) (hu : u.size ≤ 4096)
    (way : (¬ 0 < s.size ∧ g = false ∧ u = s) ∨ (0 < s.size ∧ g = false ∧ u = s ∧ ∀ h : 0 < s.size, ((s[0].toNat : Int) == 45) = false) ∨ (0 < s.size ∧ g = true ∧ (∀ w, (Instr.slice 9 (.string s) (some (.int .i64 1)) none none).run Tryz.prog w = .ok (.string u) w) ∧ ∀ h : 0 < s.size, ((s[0].toNat : Int) == 45) = true))
    (KP : ∀ w, Calls Tryz.prog 104 #[.string u] w fun e w' => e = .returned (.tuple #[.string hd, .string tl, .string pw, .bool true]) ∧ Below w.heap.size w w')
    (hp0 : 0 < pw.size) (hp1 : ∀ h : 0 < pw.size, ((pw[0].toNat : Int) == 45) = false) (rP : Pd = pw) (hPd : Digits Pd) (hPs : Pd.size ≤ 5000) (hM : smV Pd Pd.size = M) (h5 : 5000 < M) :
    Calls Tryz.prog 48 #[.string s] w fun e w' => e = .returned (.tuple #[.agg #[.bool false, .string ⟨#[]⟩, .string ⟨#[]⟩], .int .i64 4]) ∧ Below w.heap.size w w' := by
  have K1 := Lib.hid KP
  have HPD := Lib.hid hPd
  have HM := Lib.hid hM
  subst rP
  replace hp1 := hp1 hp0
  clear KP hPd hM
  have T0 := BR.start0 w false (.string ⟨#[]⟩) (.string ⟨#[]⟩) 24
  rcases way with ⟨h0, rfl, rfl⟩ | ⟨h0, rfl, rfl, h1⟩ | ⟨h0, rfl, r1, h1⟩
  case' inr.inl => have h1 := h1 h0
  case' inr.inr => have h1 := h1 h0
  all_goals
    go_enter Tryz.func48, Tryz.ntmps48
    go_wp2_with fail
    refine (K1.out _).mono ?_
    rintro ee w1 ⟨rfl, hb⟩
    replace T0 := T0.step hb
    clear hb
    go_wp2_with fail
    go_loopw [11, 12] (fun v i wr => ∃ (k m : Nat), v = .int .i64 (m : Nat) ∧ i = .int .i64 (k : Nat) ∧ k ≤ Pd.size ∧ Hid (m = smV Pd k) ∧ Hid (BR w [] wr)) (fun _ i _ => Pd.size - (Lib.intOf i).toNat)
    case atStart => exact ⟨0, 0, rfl, rfl, Nat.zero_le _, Lib.hid (smV_zero Pd).symm, Lib.hid T0⟩
    case round =>
      obtain ⟨k, m, rfl, rfl, hk, hm, hT⟩ := hrel
      by_cases hlt : k < Pd.size
      · have hdk := HPD.out k hlt
        unfold isDig at hdk
        obtain ⟨d1, d2⟩ := hdk
        have HS := Lib.hid (smV_succ Pd k hlt)
        have hml : m ≤ 5001 := by rw [hm.out]; exact smV_le _ _
        have HC := Lib.hid (rfl : Pd[k].toNat = Pd[k].toNat)
        go_wp2_with fail
        go_round
        case rel =>
          refine ⟨k + 1, smV Pd (k + 1), ?_, by go_num, hlt, Lib.hid rfl, hT⟩
          congr 1
          rw [HS.out, ← hm.out]
          omega
        case measure => simp [Lib.intOf]; omega
      · have hke : k = Pd.size := by omega
        have hmM : m = M := by rw [hm.out, hke]; exact HM.out
        clear hlt hk
        replace T0 := hT.out
        clear hT hm
        subst hke hmM
        have HF := Lib.hid (below_put3 T0.1 (Nat.le_refl _))
        obtain ⟨q0, q1, q2, q3, q4, q5, q6⟩ := T0.res0
        go_wp2_with fail
        refine bodyPost_ret (v := .tuple #[.agg #[.bool false, .string ⟨#[]⟩, .string ⟨#[]⟩], .int .i64 4]) (by simp [results, Tryz.results48, go_sem, q0, q1, q2, q3]) rfl ⟨rfl, by first | exact HF.out _ _ _ | exact (HF.out _ _ _).alloc (by simp [World.setCell]; omega) _⟩
set_option maxRecDepth 100000 in
set_option maxHeartbeats 4000000 in
theorem rDec4_fn (s u hd tl pw Pd D : ByteArray) (g : Bool) (M N T n : Nat) (Q : Rat) (w : World) (hs : s.size ≤ 4096) (hu : u.size ≤ 4096)
    (way : (¬ 0 < s.size ∧ g = false ∧ u = s) ∨ (0 < s.size ∧ g = false ∧ u = s ∧ ∀ h : 0 < s.size, ((s[0].toNat : Int) == 45) = false) ∨ (0 < s.size ∧ g = true ∧ (∀ w, (Instr.slice 9 (.string s) (some (.int .i64 1)) none none).run Tryz.prog w = .ok (.string u) w) ∧ ∀ h : 0 < s.size, ((s[0].toNat : Int) == 45) = true))
    (KP : ∀ w, Calls Tryz.prog 104 #[.string u] w fun e w' => e = .returned (.tuple #[.string hd, .string tl, .string pw, .bool true]) ∧ Below w.heap.size w w')
    (hp0 : 0 < pw.size) (hp1 : ∀ h : 0 < pw.size, ((pw[0].toNat : Int) == 45) = false) (rP : Pd = pw) (hPd : Digits Pd) (hPs : Pd.size ≤ 5000) (hM : smV Pd Pd.size = M) (h5 : M ≤ 5000)
    (hD : hd ++ tl = D) (hD0 : 0 < D.size) (hD1 : D.size ≤ 4096) (hhd : hd.size ≤ 4096) (htl : tl.size ≤ 4096)
    (KR : ∀ k w, k < D.size → (∀ j (hj : j < D.size), j < k → D[j].toNat = 48) → (D.size = k + 1 ∨ ∃ hj : k < D.size, D[k].toNat ≠ 48) → Calls Tryz.prog 101 #[.string (D.extract k D.size)] w fun e w' => e = .returned (.tuple #[.string (natS N), .int .i64 0]) ∧ Below w.heap.size w w')
    (hsg : (M : Int) - (tl.size : Int) < 0) (hn : max ((M : Int) - (tl.size : Int)) (-((M : Int) - (tl.size : Int))) = (n : Int))
    (KW : ∀ w, Calls Tryz.prog 105 #[.string ⟨#[10]⟩, .int .i64 (n : Nat)] w fun e w' => e = .returned (.tuple #[.string (natS T), .int .i64 0]) ∧ Below w.heap.size w w')
    (KL : ∀ w, Calls Tryz.prog 62 #[.bool g, .string (natS N), .string (natS T)] w fun e w' => e = .returned (qv Q) ∧ Below w.heap.size w w') :
    Calls Tryz.prog 48 #[.string s] w fun e w' => e = .returned (.tuple #[qv Q, .int .i64 0]) ∧ Below w.heap.size w w' := by
  have K1 := Lib.hid KP
  have KR1 := Lib.hid KR
  have KW1 := Lib.hid KW
  have KL1 := Lib.hid KL
  have HPD := Lib.hid hPd
  have HM := Lib.hid hM
  have HD := Lib.hid hD
  have HN := Lib.hid hn
  subst rP
  replace hp1 := hp1 hp0
  clear KP KR KW KL hPd hM hD hn
  have T0 := BR.start0 w false (.string ⟨#[]⟩) (.string ⟨#[]⟩) 24
  rcases way with ⟨h0, rfl, rfl⟩ | ⟨h0, rfl, rfl, h1⟩ | ⟨h0, rfl, r1, h1⟩
  case' inr.inl => have h1 := h1 h0
  case' inr.inr => have h1 := h1 h0
  all_goals
    go_enter Tryz.func48, Tryz.ntmps48
    go_wp2_with fail
    refine (K1.out _).mono ?_
    rintro ee w1 ⟨rfl, hb⟩
    replace T0 := T0.step hb
    clear hb
    go_wp2_with fail
    go_loopw [11, 12] (fun v i wr => ∃ (k m : Nat), v = .int .i64 (m : Nat) ∧ i = .int .i64 (k : Nat) ∧ k ≤ Pd.size ∧ Hid (m = smV Pd k) ∧ Hid (BR w [] wr)) (fun _ i _ => Pd.size - (Lib.intOf i).toNat)
    case atStart => exact ⟨0, 0, rfl, rfl, Nat.zero_le _, Lib.hid (smV_zero Pd).symm, Lib.hid T0⟩
    case round =>
      obtain ⟨k, m, rfl, rfl, hk, hm, hT⟩ := hrel
      by_cases hlt : k < Pd.size
      · have hdk := HPD.out k hlt
        unfold isDig at hdk
        obtain ⟨d1, d2⟩ := hdk
        have HS := Lib.hid (smV_succ Pd k hlt)
        have hml : m ≤ 5001 := by rw [hm.out]; exact smV_le _ _
        have HC := Lib.hid (rfl : Pd[k].toNat = Pd[k].toNat)
        go_wp2_with fail
        go_round
        case rel =>
          refine ⟨k + 1, smV Pd (k + 1), ?_, by go_num, hlt, Lib.hid rfl, hT⟩
          congr 1
          rw [HS.out, ← hm.out]
          omega
        case measure => simp [Lib.intOf]; omega
      · have hke : k = Pd.size := by omega
        have hmM : m = M := by rw [hm.out, hke]; exact HM.out
        clear hlt hk
        replace T0 := hT.out
        clear hT hm
        subst hke hmM
        go_wp2_with fail
        go_loopw [13] (fun v wr => ∃ k : Nat, v = .string (D.extract k D.size) ∧ k < D.size ∧ Hid (∀ j (hj : j < D.size), j < k → D[j].toNat = 48) ∧ Hid (BR w [] wr)) (fun v _ => strSz v)
        case atStart => exact ⟨0, by rw [HD.out, ByteArray.extract_zero_size], hD0, Lib.hid (fun j _ c => absurd c (Nat.not_lt_zero _)), Lib.hid T0⟩
        case round =>
          obtain ⟨k, rfl, hk, hno, hT⟩ := hrel
          have hE : (D.extract k D.size).size = D.size - k := by rw [ByteArray.size_extract, Nat.min_self]
          have hE0 : ∀ h : 0 < (D.extract k D.size).size, (D.extract k D.size)[0] = D[k] := fun h => by rw [ByteArray.getElem_extract]; rfl
          have hE1 : (D.extract k D.size).extract 1 (D.extract k D.size).size = D.extract (k + 1) D.size := ext_from D k 1
          have KR2 := Lib.hid (fun w => KR1.out k w hk hno.out)
          obtain ⟨E, hEE⟩ : ∃ E, E = D.extract k D.size := ⟨_, rfl⟩
          rw [← hEE] at hE hE0 hE1 KR2 ⊢
          have HE1 := Lib.hid hE1
          have hp : 0 < E.size := by omega
          have hE00 := hE0 hp
          have HE := Lib.hid hE
          clear hE1 hE0 hEE
          by_cases hw : 1 < E.size ∧ E[0].toNat = 48
          · obtain ⟨w1', w2'⟩ := hw
            have g1 : (1 : Int) < (E.size : Int) := by omega
            have g2 : ((E[0].toNat : Int) == 48) = true := by rw [w2']; rfl
            have HNO : Hid (∀ j (hj : j < D.size), j < k + 1 → D[j].toNat = 48) := Lib.hid (fun j hj hjk => by
              by_cases c : j < k
              · exact hno.out j hj c
              · have : j = k := by omega
                subst this
                rw [← hE00]; exact w2')
            have hk1 : k + 1 < D.size := by omega
            clear w1' w2' hE00 hE
            go_wp2_with fail
            go_round
            case rel => exact ⟨k + 1, by rw [HE1.out], hk1, HNO, hT⟩
            case measure => simp only [strSz]; rw [ByteArray.size_extract]; omega
          · have hend : D.size = k + 1 ∨ ∃ hj : k < D.size, D[k].toNat ≠ 48 := by
              by_cases c : 1 < E.size
              · exact Or.inr ⟨hk, fun d => hw ⟨c, by rw [hE00]; exact d⟩⟩
              · exact Or.inl (by omega)
            have K3 := Lib.hid (fun w => KR2.out w hend)
            replace T0 := hT.out
            have hcase : (¬ (1 : Int) < (E.size : Int)) ∨ ((1 : Int) < (E.size : Int) ∧ ((E[0].toNat : Int) == 48) = false) := by
              by_cases c : 1 < E.size
              · exact Or.inr ⟨by omega, by rw [beq_eq_false_iff_ne]; intro d; exact hw ⟨c, by omega⟩⟩
              · exact Or.inl (by omega)
            clear hend hw hE00 hE hT hno KR2 HE1 KR1
            have KQ1 : Hid (∀ w, Calls Tryz.prog 101 #[.string E] w fun e w' => e = .returned (.tuple #[.string (natS N), .int .i64 0]) ∧ Below w.heap.size w w') := K3
            clear K3
            rcases hcase with g1 | ⟨g1, g2⟩
            all_goals
              go_wp2_with fail
              refine (KQ1.out _).mono ?_
              rintro ee w3 ⟨rfl, hb⟩
              replace T0 := T0.step hb
              clear hb KQ1
              go_wp2_with fail
              rw [HN.out]
              refine (KW1.out _).mono ?_
              rintro ee w4 ⟨rfl, hb⟩
              replace T0 := T0.step hb
              clear hb KW1 HN
              go_wp2_with fail
              refine (KL1.out _).mono ?_
              rintro ee w6 ⟨rfl, hb⟩
              replace T0 := T0.step hb
              clear hb KL1
              obtain ⟨q0, q1, q2, q3, q4, q5, q6⟩ := T0.res0
              have hfin := below_put3 T0.1 (Nat.le_refl _)
              go_wp2_with fail
              refine bodyPost_ret (v := .tuple #[qv Q, .int .i64 0]) (by simp [results, Tryz.results48, go_sem, q0, q1, q2, q3, qv]) rfl ⟨rfl, hfin _ _ _⟩
set_option maxRecDepth 100000 in
set_option maxHeartbeats 4000000 in
theorem rDec4_fp (s u hd tl pw Pd D : ByteArray) (g : Bool) (M N T n : Nat) (NT : Nat) (Q : Rat) (w : World) (hs : s.size ≤ 4096) (hu : u.size ≤ 4096)
    (way : (¬ 0 < s.size ∧ g = false ∧ u = s) ∨ (0 < s.size ∧ g = false ∧ u = s ∧ ∀ h : 0 < s.size, ((s[0].toNat : Int) == 45) = false) ∨ (0 < s.size ∧ g = true ∧ (∀ w, (Instr.slice 9 (.string s) (some (.int .i64 1)) none none).run Tryz.prog w = .ok (.string u) w) ∧ ∀ h : 0 < s.size, ((s[0].toNat : Int) == 45) = true))
    (KP : ∀ w, Calls Tryz.prog 104 #[.string u] w fun e w' => e = .returned (.tuple #[.string hd, .string tl, .string pw, .bool true]) ∧ Below w.heap.size w w')
    (hp0 : 0 < pw.size) (hp1 : ∀ h : 0 < pw.size, ((pw[0].toNat : Int) == 45) = false) (rP : Pd = pw) (hPd : Digits Pd) (hPs : Pd.size ≤ 5000) (hM : smV Pd Pd.size = M) (h5 : M ≤ 5000)
    (hD : hd ++ tl = D) (hD0 : 0 < D.size) (hD1 : D.size ≤ 4096) (hhd : hd.size ≤ 4096) (htl : tl.size ≤ 4096)
    (KR : ∀ k w, k < D.size → (∀ j (hj : j < D.size), j < k → D[j].toNat = 48) → (D.size = k + 1 ∨ ∃ hj : k < D.size, D[k].toNat ≠ 48) → Calls Tryz.prog 101 #[.string (D.extract k D.size)] w fun e w' => e = .returned (.tuple #[.string (natS N), .int .i64 0]) ∧ Below w.heap.size w w')
    (hsg : ¬ (M : Int) - (tl.size : Int) < 0) (hn : max ((M : Int) - (tl.size : Int)) (-((M : Int) - (tl.size : Int))) = (n : Int))
    (KW : ∀ w, Calls Tryz.prog 105 #[.string ⟨#[10]⟩, .int .i64 (n : Nat)] w fun e w' => e = .returned (.tuple #[.string (natS T), .int .i64 0]) ∧ Below w.heap.size w w')
    (KT : ∀ w, Calls Tryz.prog 82 #[.string (natS N), .string (natS T)] w fun e w' => e = .returned (.string (natS NT)) ∧ Below w.heap.size w w')
    (KL : ∀ w, Calls Tryz.prog 62 #[.bool g, .string (natS NT), .string ⟨#[1]⟩] w fun e w' => e = .returned (qv Q) ∧ Below w.heap.size w w') :
    Calls Tryz.prog 48 #[.string s] w fun e w' => e = .returned (.tuple #[qv Q, .int .i64 0]) ∧ Below w.heap.size w w' := by
  have K1 := Lib.hid KP
  have KR1 := Lib.hid KR
  have KW1 := Lib.hid KW
  have KL1 := Lib.hid KL
  have KT1 := Lib.hid KT
  have HPD := Lib.hid hPd
  have HM := Lib.hid hM
  have HD := Lib.hid hD
  have HN := Lib.hid hn
  subst rP
  replace hp1 := hp1 hp0
  clear KP KR KW KL hPd hM hD hn KT
  have T0 := BR.start0 w false (.string ⟨#[]⟩) (.string ⟨#[]⟩) 24
  rcases way with ⟨h0, rfl, rfl⟩ | ⟨h0, rfl, rfl, h1⟩ | ⟨h0, rfl, r1, h1⟩
  case' inr.inl => have h1 := h1 h0
  case' inr.inr => have h1 := h1 h0
  all_goals
    go_enter Tryz.func48, Tryz.ntmps48
    go_wp2_with fail
    refine (K1.out _).mono ?_
    rintro ee w1 ⟨rfl, hb⟩
    replace T0 := T0.step hb
    clear hb
    go_wp2_with fail
    go_loopw [11, 12] (fun v i wr => ∃ (k m : Nat), v = .int .i64 (m : Nat) ∧ i = .int .i64 (k : Nat) ∧ k ≤ Pd.size ∧ Hid (m = smV Pd k) ∧ Hid (BR w [] wr)) (fun _ i _ => Pd.size - (Lib.intOf i).toNat)
    case atStart => exact ⟨0, 0, rfl, rfl, Nat.zero_le _, Lib.hid (smV_zero Pd).symm, Lib.hid T0⟩
    case round =>
      obtain ⟨k, m, rfl, rfl, hk, hm, hT⟩ := hrel
      by_cases hlt : k < Pd.size
      · have hdk := HPD.out k hlt
        unfold isDig at hdk
        obtain ⟨d1, d2⟩ := hdk
        have HS := Lib.hid (smV_succ Pd k hlt)
        have hml : m ≤ 5001 := by rw [hm.out]; exact smV_le _ _
        have HC := Lib.hid (rfl : Pd[k].toNat = Pd[k].toNat)
        go_wp2_with fail
        go_round
        case rel =>
          refine ⟨k + 1, smV Pd (k + 1), ?_, by go_num, hlt, Lib.hid rfl, hT⟩
          congr 1
          rw [HS.out, ← hm.out]
          omega
        case measure => simp [Lib.intOf]; omega
      · have hke : k = Pd.size := by omega
        have hmM : m = M := by rw [hm.out, hke]; exact HM.out
        clear hlt hk
        replace T0 := hT.out
        clear hT hm
        subst hke hmM
        go_wp2_with fail
        go_loopw [13] (fun v wr => ∃ k : Nat, v = .string (D.extract k D.size) ∧ k < D.size ∧ Hid (∀ j (hj : j < D.size), j < k → D[j].toNat = 48) ∧ Hid (BR w [] wr)) (fun v _ => strSz v)
        case atStart => exact ⟨0, by rw [HD.out, ByteArray.extract_zero_size], hD0, Lib.hid (fun j _ c => absurd c (Nat.not_lt_zero _)), Lib.hid T0⟩
        case round =>
          obtain ⟨k, rfl, hk, hno, hT⟩ := hrel
          have hE : (D.extract k D.size).size = D.size - k := by rw [ByteArray.size_extract, Nat.min_self]
          have hE0 : ∀ h : 0 < (D.extract k D.size).size, (D.extract k D.size)[0] = D[k] := fun h => by rw [ByteArray.getElem_extract]; rfl
          have hE1 : (D.extract k D.size).extract 1 (D.extract k D.size).size = D.extract (k + 1) D.size := ext_from D k 1
          have KR2 := Lib.hid (fun w => KR1.out k w hk hno.out)
          obtain ⟨E, hEE⟩ : ∃ E, E = D.extract k D.size := ⟨_, rfl⟩
          rw [← hEE] at hE hE0 hE1 KR2 ⊢
          have HE1 := Lib.hid hE1
          have hp : 0 < E.size := by omega
          have hE00 := hE0 hp
          have HE := Lib.hid hE
          clear hE1 hE0 hEE
          by_cases hw : 1 < E.size ∧ E[0].toNat = 48
          · obtain ⟨w1', w2'⟩ := hw
            have g1 : (1 : Int) < (E.size : Int) := by omega
            have g2 : ((E[0].toNat : Int) == 48) = true := by rw [w2']; rfl
            have HNO : Hid (∀ j (hj : j < D.size), j < k + 1 → D[j].toNat = 48) := Lib.hid (fun j hj hjk => by
              by_cases c : j < k
              · exact hno.out j hj c
              · have : j = k := by omega
                subst this
                rw [← hE00]; exact w2')
            have hk1 : k + 1 < D.size := by omega
            clear w1' w2' hE00 hE
            go_wp2_with fail
            go_round
            case rel => exact ⟨k + 1, by rw [HE1.out], hk1, HNO, hT⟩
            case measure => simp only [strSz]; rw [ByteArray.size_extract]; omega
          · have hend : D.size = k + 1 ∨ ∃ hj : k < D.size, D[k].toNat ≠ 48 := by
              by_cases c : 1 < E.size
              · exact Or.inr ⟨hk, fun d => hw ⟨c, by rw [hE00]; exact d⟩⟩
              · exact Or.inl (by omega)
            have K3 := Lib.hid (fun w => KR2.out w hend)
            replace T0 := hT.out
            have hcase : (¬ (1 : Int) < (E.size : Int)) ∨ ((1 : Int) < (E.size : Int) ∧ ((E[0].toNat : Int) == 48) = false) := by
              by_cases c : 1 < E.size
              · exact Or.inr ⟨by omega, by rw [beq_eq_false_iff_ne]; intro d; exact hw ⟨c, by omega⟩⟩
              · exact Or.inl (by omega)
            clear hend hw hE00 hE hT hno KR2 HE1 KR1
            have KQ1 : Hid (∀ w, Calls Tryz.prog 101 #[.string E] w fun e w' => e = .returned (.tuple #[.string (natS N), .int .i64 0]) ∧ Below w.heap.size w w') := K3
            clear K3
            rcases hcase with g1 | ⟨g1, g2⟩
            all_goals
              go_wp2_with fail
              refine (KQ1.out _).mono ?_
              rintro ee w3 ⟨rfl, hb⟩
              replace T0 := T0.step hb
              clear hb KQ1
              go_wp2_with fail
              rw [HN.out]
              refine (KW1.out _).mono ?_
              rintro ee w4 ⟨rfl, hb⟩
              replace T0 := T0.step hb
              clear hb KW1 HN
              go_wp2_with fail
              refine (KT1.out _).mono ?_
              rintro ee w5 ⟨rfl, hb⟩
              replace T0 := T0.step hb
              clear hb KT1
              go_wp2_with fail
              refine (KL1.out _).mono ?_
              rintro ee w6 ⟨rfl, hb⟩
              replace T0 := T0.step hb
              clear hb KL1
              obtain ⟨q0, q1, q2, q3, q4, q5, q6⟩ := T0.res0
              have hfin := below_put3 T0.1 (Nat.le_refl _)
              go_wp2_with fail
              refine bodyPost_ret (v := .tuple #[qv Q, .int .i64 0]) (by simp [results, Tryz.results48, go_sem, q0, q1, q2, q3, qv]) rfl ⟨rfl, hfin _ _ _⟩
set_option maxRecDepth 100000 in
set_option maxHeartbeats 4000000 in
theorem rDec4_far_t (s u hd tl pw Pd : ByteArray) (g : Bool) (M : Nat) (w : World) (hs : s.size ≤ 4096) (hu : u.size ≤ 4096)
    (way : (¬ 0 < s.size ∧ g = false ∧ u = s) ∨ (0 < s.size ∧ g = false ∧ u = s ∧ ∀ h : 0 < s.size, ((s[0].toNat : Int) == 45) = false) ∨ (0 < s.size ∧ g = true ∧ (∀ w, (Instr.slice 9 (.string s) (some (.int .i64 1)) none none).run Tryz.prog w = .ok (.string u) w) ∧ ∀ h : 0 < s.size, ((s[0].toNat : Int) == 45) = true))
    (KP : ∀ w, Calls Tryz.prog 104 #[.string u] w fun e w' => e = .returned (.tuple #[.string hd, .string tl, .string pw, .bool true]) ∧ Below w.heap.size w w')
    (hp0 : 0 < pw.size) (hp1 : ∀ h : 0 < pw.size, ((pw[0].toNat : Int) == 45) = true) (rP : ∀ w, (Instr.slice 9 (.string pw) (some (.int .i64 1)) none none).run Tryz.prog w = .ok (.string Pd) w) (hPd : Digits Pd) (hPs : Pd.size ≤ 5000) (hM : smV Pd Pd.size = M) (h5 : 5000 < M) :
    Calls Tryz.prog 48 #[.string s] w fun e w' => e = .returned (.tuple #[.agg #[.bool false, .string ⟨#[]⟩, .string ⟨#[]⟩], .int .i64 4]) ∧ Below w.heap.size w w' := by
  have K1 := Lib.hid KP
  have HPD := Lib.hid hPd
  have HM := Lib.hid hM
  replace hp1 := hp1 hp0
  clear KP hPd hM
  have T0 := BR.start0 w false (.string ⟨#[]⟩) (.string ⟨#[]⟩) 24
  rcases way with ⟨h0, rfl, rfl⟩ | ⟨h0, rfl, rfl, h1⟩ | ⟨h0, rfl, r1, h1⟩
  case' inr.inl => have h1 := h1 h0
  case' inr.inr => have h1 := h1 h0
  all_goals
    go_enter Tryz.func48, Tryz.ntmps48
    go_wp2_with fail
    refine (K1.out _).mono ?_
    rintro ee w1 ⟨rfl, hb⟩
    replace T0 := T0.step hb
    clear hb
    go_wp2_with fail
    go_loopw [11, 12] (fun v i wr => ∃ (k m : Nat), v = .int .i64 (m : Nat) ∧ i = .int .i64 (k : Nat) ∧ k ≤ Pd.size ∧ Hid (m = smV Pd k) ∧ Hid (BR w [] wr)) (fun _ i _ => Pd.size - (Lib.intOf i).toNat)
    case atStart => exact ⟨0, 0, rfl, rfl, Nat.zero_le _, Lib.hid (smV_zero Pd).symm, Lib.hid T0⟩
    case round =>
      obtain ⟨k, m, rfl, rfl, hk, hm, hT⟩ := hrel
      by_cases hlt : k < Pd.size
      · have hdk := HPD.out k hlt
        unfold isDig at hdk
        obtain ⟨d1, d2⟩ := hdk
        have HS := Lib.hid (smV_succ Pd k hlt)
        have hml : m ≤ 5001 := by rw [hm.out]; exact smV_le _ _
        have HC := Lib.hid (rfl : Pd[k].toNat = Pd[k].toNat)
        go_wp2_with fail
        go_round
        case rel =>
          refine ⟨k + 1, smV Pd (k + 1), ?_, by go_num, hlt, Lib.hid rfl, hT⟩
          congr 1
          rw [HS.out, ← hm.out]
          omega
        case measure => simp [Lib.intOf]; omega
      · have hke : k = Pd.size := by omega
        have hmM : m = M := by rw [hm.out, hke]; exact HM.out
        clear hlt hk
        replace T0 := hT.out
        clear hT hm
        subst hke hmM
        have HF := Lib.hid (below_put3 T0.1 (Nat.le_refl _))
        obtain ⟨q0, q1, q2, q3, q4, q5, q6⟩ := T0.res0
        go_wp2_with fail
        refine bodyPost_ret (v := .tuple #[.agg #[.bool false, .string ⟨#[]⟩, .string ⟨#[]⟩], .int .i64 4]) (by simp [results, Tryz.results48, go_sem, q0, q1, q2, q3]) rfl ⟨rfl, by first | exact HF.out _ _ _ | exact (HF.out _ _ _).alloc (by simp [World.setCell]; omega) _⟩
set_option maxRecDepth 100000 in
set_option maxHeartbeats 4000000 in
theorem rDec4_tn (s u hd tl pw Pd D : ByteArray) (g : Bool) (M N T n : Nat) (Q : Rat) (w : World) (hs : s.size ≤ 4096) (hu : u.size ≤ 4096)
    (way : (¬ 0 < s.size ∧ g = false ∧ u = s) ∨ (0 < s.size ∧ g = false ∧ u = s ∧ ∀ h : 0 < s.size, ((s[0].toNat : Int) == 45) = false) ∨ (0 < s.size ∧ g = true ∧ (∀ w, (Instr.slice 9 (.string s) (some (.int .i64 1)) none none).run Tryz.prog w = .ok (.string u) w) ∧ ∀ h : 0 < s.size, ((s[0].toNat : Int) == 45) = true))
    (KP : ∀ w, Calls Tryz.prog 104 #[.string u] w fun e w' => e = .returned (.tuple #[.string hd, .string tl, .string pw, .bool true]) ∧ Below w.heap.size w w')
    (hp0 : 0 < pw.size) (hp1 : ∀ h : 0 < pw.size, ((pw[0].toNat : Int) == 45) = true) (rP : ∀ w, (Instr.slice 9 (.string pw) (some (.int .i64 1)) none none).run Tryz.prog w = .ok (.string Pd) w) (hPd : Digits Pd) (hPs : Pd.size ≤ 5000) (hM : smV Pd Pd.size = M) (h5 : M ≤ 5000)
    (hD : hd ++ tl = D) (hD0 : 0 < D.size) (hD1 : D.size ≤ 4096) (hhd : hd.size ≤ 4096) (htl : tl.size ≤ 4096)
    (KR : ∀ k w, k < D.size → (∀ j (hj : j < D.size), j < k → D[j].toNat = 48) → (D.size = k + 1 ∨ ∃ hj : k < D.size, D[k].toNat ≠ 48) → Calls Tryz.prog 101 #[.string (D.extract k D.size)] w fun e w' => e = .returned (.tuple #[.string (natS N), .int .i64 0]) ∧ Below w.heap.size w w')
    (hsg : -(M : Int) - (tl.size : Int) < 0) (hn : max (-(M : Int) - (tl.size : Int)) (-(-(M : Int) - (tl.size : Int))) = (n : Int))
    (KW : ∀ w, Calls Tryz.prog 105 #[.string ⟨#[10]⟩, .int .i64 (n : Nat)] w fun e w' => e = .returned (.tuple #[.string (natS T), .int .i64 0]) ∧ Below w.heap.size w w')
    (KL : ∀ w, Calls Tryz.prog 62 #[.bool g, .string (natS N), .string (natS T)] w fun e w' => e = .returned (qv Q) ∧ Below w.heap.size w w') :
    Calls Tryz.prog 48 #[.string s] w fun e w' => e = .returned (.tuple #[qv Q, .int .i64 0]) ∧ Below w.heap.size w w' := by
  have K1 := Lib.hid KP
  have KR1 := Lib.hid KR
  have KW1 := Lib.hid KW
  have KL1 := Lib.hid KL
  have HPD := Lib.hid hPd
  have HM := Lib.hid hM
  have HD := Lib.hid hD
  have HN := Lib.hid hn
  replace hp1 := hp1 hp0
  clear KP KR KW KL hPd hM hD hn
  have T0 := BR.start0 w false (.string ⟨#[]⟩) (.string ⟨#[]⟩) 24
  rcases way with ⟨h0, rfl, rfl⟩ | ⟨h0, rfl, rfl, h1⟩ | ⟨h0, rfl, r1, h1⟩
  case' inr.inl => have h1 := h1 h0
  case' inr.inr => have h1 := h1 h0
  all_goals
    go_enter Tryz.func48, Tryz.ntmps48
    go_wp2_with fail
    refine (K1.out _).mono ?_
    rintro ee w1 ⟨rfl, hb⟩
    replace T0 := T0.step hb
    clear hb
    go_wp2_with fail
    go_loopw [11, 12] (fun v i wr => ∃ (k m : Nat), v = .int .i64 (m : Nat) ∧ i = .int .i64 (k : Nat) ∧ k ≤ Pd.size ∧ Hid (m = smV Pd k) ∧ Hid (BR w [] wr)) (fun _ i _ => Pd.size - (Lib.intOf i).toNat)
    case atStart => exact ⟨0, 0, rfl, rfl, Nat.zero_le _, Lib.hid (smV_zero Pd).symm, Lib.hid T0⟩
    case round =>
      obtain ⟨k, m, rfl, rfl, hk, hm, hT⟩ := hrel
      by_cases hlt : k < Pd.size
      · have hdk := HPD.out k hlt
        unfold isDig at hdk
        obtain ⟨d1, d2⟩ := hdk
        have HS := Lib.hid (smV_succ Pd k hlt)
        have hml : m ≤ 5001 := by rw [hm.out]; exact smV_le _ _
        have HC := Lib.hid (rfl : Pd[k].toNat = Pd[k].toNat)
        go_wp2_with fail
        go_round
        case rel =>
          refine ⟨k + 1, smV Pd (k + 1), ?_, by go_num, hlt, Lib.hid rfl, hT⟩
          congr 1
          rw [HS.out, ← hm.out]
          omega
        case measure => simp [Lib.intOf]; omega
      · have hke : k = Pd.size := by omega
        have hmM : m = M := by rw [hm.out, hke]; exact HM.out
        clear hlt hk
        replace T0 := hT.out
        clear hT hm
        subst hke hmM
        go_wp2_with fail
        go_loopw [13] (fun v wr => ∃ k : Nat, v = .string (D.extract k D.size) ∧ k < D.size ∧ Hid (∀ j (hj : j < D.size), j < k → D[j].toNat = 48) ∧ Hid (BR w [] wr)) (fun v _ => strSz v)
        case atStart => exact ⟨0, by rw [HD.out, ByteArray.extract_zero_size], hD0, Lib.hid (fun j _ c => absurd c (Nat.not_lt_zero _)), Lib.hid T0⟩
        case round =>
          obtain ⟨k, rfl, hk, hno, hT⟩ := hrel
          have hE : (D.extract k D.size).size = D.size - k := by rw [ByteArray.size_extract, Nat.min_self]
          have hE0 : ∀ h : 0 < (D.extract k D.size).size, (D.extract k D.size)[0] = D[k] := fun h => by rw [ByteArray.getElem_extract]; rfl
          have hE1 : (D.extract k D.size).extract 1 (D.extract k D.size).size = D.extract (k + 1) D.size := ext_from D k 1
          have KR2 := Lib.hid (fun w => KR1.out k w hk hno.out)
          obtain ⟨E, hEE⟩ : ∃ E, E = D.extract k D.size := ⟨_, rfl⟩
          rw [← hEE] at hE hE0 hE1 KR2 ⊢
          have HE1 := Lib.hid hE1
          have hp : 0 < E.size := by omega
          have hE00 := hE0 hp
          have HE := Lib.hid hE
          clear hE1 hE0 hEE
          by_cases hw : 1 < E.size ∧ E[0].toNat = 48
          · obtain ⟨w1', w2'⟩ := hw
            have g1 : (1 : Int) < (E.size : Int) := by omega
            have g2 : ((E[0].toNat : Int) == 48) = true := by rw [w2']; rfl
            have HNO : Hid (∀ j (hj : j < D.size), j < k + 1 → D[j].toNat = 48) := Lib.hid (fun j hj hjk => by
              by_cases c : j < k
              · exact hno.out j hj c
              · have : j = k := by omega
                subst this
                rw [← hE00]; exact w2')
            have hk1 : k + 1 < D.size := by omega
            clear w1' w2' hE00 hE
            go_wp2_with fail
            go_round
            case rel => exact ⟨k + 1, by rw [HE1.out], hk1, HNO, hT⟩
            case measure => simp only [strSz]; rw [ByteArray.size_extract]; omega
          · have hend : D.size = k + 1 ∨ ∃ hj : k < D.size, D[k].toNat ≠ 48 := by
              by_cases c : 1 < E.size
              · exact Or.inr ⟨hk, fun d => hw ⟨c, by rw [hE00]; exact d⟩⟩
              · exact Or.inl (by omega)
            have K3 := Lib.hid (fun w => KR2.out w hend)
            replace T0 := hT.out
            have hcase : (¬ (1 : Int) < (E.size : Int)) ∨ ((1 : Int) < (E.size : Int) ∧ ((E[0].toNat : Int) == 48) = false) := by
              by_cases c : 1 < E.size
              · exact Or.inr ⟨by omega, by rw [beq_eq_false_iff_ne]; intro d; exact hw ⟨c, by omega⟩⟩
              · exact Or.inl (by omega)
            clear hend hw hE00 hE hT hno KR2 HE1 KR1
            have KQ1 : Hid (∀ w, Calls Tryz.prog 101 #[.string E] w fun e w' => e = .returned (.tuple #[.string (natS N), .int .i64 0]) ∧ Below w.heap.size w w') := K3
            clear K3
            rcases hcase with g1 | ⟨g1, g2⟩
            all_goals
              go_wp2_with fail
              refine (KQ1.out _).mono ?_
              rintro ee w3 ⟨rfl, hb⟩
              replace T0 := T0.step hb
              clear hb KQ1
              go_wp2_with fail
              rw [HN.out]
              refine (KW1.out _).mono ?_
              rintro ee w4 ⟨rfl, hb⟩
              replace T0 := T0.step hb
              clear hb KW1 HN
              go_wp2_with fail
              refine (KL1.out _).mono ?_
              rintro ee w6 ⟨rfl, hb⟩
              replace T0 := T0.step hb
              clear hb KL1
              obtain ⟨q0, q1, q2, q3, q4, q5, q6⟩ := T0.res0
              have hfin := below_put3 T0.1 (Nat.le_refl _)
              go_wp2_with fail
              refine bodyPost_ret (v := .tuple #[qv Q, .int .i64 0]) (by simp [results, Tryz.results48, go_sem, q0, q1, q2, q3, qv]) rfl ⟨rfl, hfin _ _ _⟩
set_option maxRecDepth 100000 in
set_option maxHeartbeats 4000000 in
theorem rDec4_tp (s u hd tl pw Pd D : ByteArray) (g : Bool) (M N T n : Nat) (NT : Nat) (Q : Rat) (w : World) (hs : s.size ≤ 4096) (hu : u.size ≤ 4096)
    (way : (¬ 0 < s.size ∧ g = false ∧ u = s) ∨ (0 < s.size ∧ g = false ∧ u = s ∧ ∀ h : 0 < s.size, ((s[0].toNat : Int) == 45) = false) ∨ (0 < s.size ∧ g = true ∧ (∀ w, (Instr.slice 9 (.string s) (some (.int .i64 1)) none none).run Tryz.prog w = .ok (.string u) w) ∧ ∀ h : 0 < s.size, ((s[0].toNat : Int) == 45) = true))
    (KP : ∀ w, Calls Tryz.prog 104 #[.string u] w fun e w' => e = .returned (.tuple #[.string hd, .string tl, .string pw, .bool true]) ∧ Below w.heap.size w w')
    (hp0 : 0 < pw.size) (hp1 : ∀ h : 0 < pw.size, ((pw[0].toNat : Int) == 45) = true) (rP : ∀ w, (Instr.slice 9 (.string pw) (some (.int .i64 1)) none none).run Tryz.prog w = .ok (.string Pd) w) (hPd : Digits Pd) (hPs : Pd.size ≤ 5000) (hM : smV Pd Pd.size = M) (h5 : M ≤ 5000)
    (hD : hd ++ tl = D) (hD0 : 0 < D.size) (hD1 : D.size ≤ 4096) (hhd : hd.size ≤ 4096) (htl : tl.size ≤ 4096)
    (KR : ∀ k w, k < D.size → (∀ j (hj : j < D.size), j < k → D[j].toNat = 48) → (D.size = k + 1 ∨ ∃ hj : k < D.size, D[k].toNat ≠ 48) → Calls Tryz.prog 101 #[.string (D.extract k D.size)] w fun e w' => e = .returned (.tuple #[.string (natS N), .int .i64 0]) ∧ Below w.heap.size w w')
    (hsg : ¬ -(M : Int) - (tl.size : Int) < 0) (hn : max (-(M : Int) - (tl.size : Int)) (-(-(M : Int) - (tl.size : Int))) = (n : Int))
    (KW : ∀ w, Calls Tryz.prog 105 #[.string ⟨#[10]⟩, .int .i64 (n : Nat)] w fun e w' => e = .returned (.tuple #[.string (natS T), .int .i64 0]) ∧ Below w.heap.size w w')
    (KT : ∀ w, Calls Tryz.prog 82 #[.string (natS N), .string (natS T)] w fun e w' => e = .returned (.string (natS NT)) ∧ Below w.heap.size w w')
    (KL : ∀ w, Calls Tryz.prog 62 #[.bool g, .string (natS NT), .string ⟨#[1]⟩] w fun e w' => e = .returned (qv Q) ∧ Below w.heap.size w w') :
    Calls Tryz.prog 48 #[.string s] w fun e w' => e = .returned (.tuple #[qv Q, .int .i64 0]) ∧ Below w.heap.size w w' := by
  have K1 := Lib.hid KP
  have KR1 := Lib.hid KR
  have KW1 := Lib.hid KW
  have KL1 := Lib.hid KL
  have KT1 := Lib.hid KT
  have HPD := Lib.hid hPd
  have HM := Lib.hid hM
  have HD := Lib.hid hD
  have HN := Lib.hid hn
  replace hp1 := hp1 hp0
  clear KP KR KW KL hPd hM hD hn KT
  have T0 := BR.start0 w false (.string ⟨#[]⟩) (.string ⟨#[]⟩) 24
  rcases way with ⟨h0, rfl, rfl⟩ | ⟨h0, rfl, rfl, h1⟩ | ⟨h0, rfl, r1, h1⟩
  case' inr.inl => have h1 := h1 h0
  case' inr.inr => have h1 := h1 h0
  all_goals
    go_enter Tryz.func48, Tryz.ntmps48
    go_wp2_with fail
    refine (K1.out _).mono ?_
    rintro ee w1 ⟨rfl, hb⟩
    replace T0 := T0.step hb
    clear hb
    go_wp2_with fail
    go_loopw [11, 12] (fun v i wr => ∃ (k m : Nat), v = .int .i64 (m : Nat) ∧ i = .int .i64 (k : Nat) ∧ k ≤ Pd.size ∧ Hid (m = smV Pd k) ∧ Hid (BR w [] wr)) (fun _ i _ => Pd.size - (Lib.intOf i).toNat)
    case atStart => exact ⟨0, 0, rfl, rfl, Nat.zero_le _, Lib.hid (smV_zero Pd).symm, Lib.hid T0⟩
    case round =>
      obtain ⟨k, m, rfl, rfl, hk, hm, hT⟩ := hrel
      by_cases hlt : k < Pd.size
      · have hdk := HPD.out k hlt
        unfold isDig at hdk
        obtain ⟨d1, d2⟩ := hdk
        have HS := Lib.hid (smV_succ Pd k hlt)
        have hml : m ≤ 5001 := by rw [hm.out]; exact smV_le _ _
        have HC := Lib.hid (rfl : Pd[k].toNat = Pd[k].toNat)
        go_wp2_with fail
        go_round
        case rel =>
          refine ⟨k + 1, smV Pd (k + 1), ?_, by go_num, hlt, Lib.hid rfl, hT⟩
          congr 1
          rw [HS.out, ← hm.out]
          omega
        case measure => simp [Lib.intOf]; omega
      · have hke : k = Pd.size := by omega
        have hmM : m = M := by rw [hm.out, hke]; exact HM.out
        clear hlt hk
        replace T0 := hT.out
        clear hT hm
        subst hke hmM
        go_wp2_with fail
        go_loopw [13] (fun v wr => ∃ k : Nat, v = .string (D.extract k D.size) ∧ k < D.size ∧ Hid (∀ j (hj : j < D.size), j < k → D[j].toNat = 48) ∧ Hid (BR w [] wr)) (fun v _ => strSz v)
        case atStart => exact ⟨0, by rw [HD.out, ByteArray.extract_zero_size], hD0, Lib.hid (fun j _ c => absurd c (Nat.not_lt_zero _)), Lib.hid T0⟩
        case round =>
          obtain ⟨k, rfl, hk, hno, hT⟩ := hrel
          have hE : (D.extract k D.size).size = D.size - k := by rw [ByteArray.size_extract, Nat.min_self]
          have hE0 : ∀ h : 0 < (D.extract k D.size).size, (D.extract k D.size)[0] = D[k] := fun h => by rw [ByteArray.getElem_extract]; rfl
          have hE1 : (D.extract k D.size).extract 1 (D.extract k D.size).size = D.extract (k + 1) D.size := ext_from D k 1
          have KR2 := Lib.hid (fun w => KR1.out k w hk hno.out)
          obtain ⟨E, hEE⟩ : ∃ E, E = D.extract k D.size := ⟨_, rfl⟩
          rw [← hEE] at hE hE0 hE1 KR2 ⊢
          have HE1 := Lib.hid hE1
          have hp : 0 < E.size := by omega
          have hE00 := hE0 hp
          have HE := Lib.hid hE
          clear hE1 hE0 hEE
          by_cases hw : 1 < E.size ∧ E[0].toNat = 48
          · obtain ⟨w1', w2'⟩ := hw
            have g1 : (1 : Int) < (E.size : Int) := by omega
            have g2 : ((E[0].toNat : Int) == 48) = true := by rw [w2']; rfl
            have HNO : Hid (∀ j (hj : j < D.size), j < k + 1 → D[j].toNat = 48) := Lib.hid (fun j hj hjk => by
              by_cases c : j < k
              · exact hno.out j hj c
              · have : j = k := by omega
                subst this
                rw [← hE00]; exact w2')
            have hk1 : k + 1 < D.size := by omega
            clear w1' w2' hE00 hE
            go_wp2_with fail
            go_round
            case rel => exact ⟨k + 1, by rw [HE1.out], hk1, HNO, hT⟩
            case measure => simp only [strSz]; rw [ByteArray.size_extract]; omega
          · have hend : D.size = k + 1 ∨ ∃ hj : k < D.size, D[k].toNat ≠ 48 := by
              by_cases c : 1 < E.size
              · exact Or.inr ⟨hk, fun d => hw ⟨c, by rw [hE00]; exact d⟩⟩
              · exact Or.inl (by omega)
            have K3 := Lib.hid (fun w => KR2.out w hend)
            replace T0 := hT.out
            have hcase : (¬ (1 : Int) < (E.size : Int)) ∨ ((1 : Int) < (E.size : Int) ∧ ((E[0].toNat : Int) == 48) = false) := by
              by_cases c : 1 < E.size
              · exact Or.inr ⟨by omega, by rw [beq_eq_false_iff_ne]; intro d; exact hw ⟨c, by omega⟩⟩
              · exact Or.inl (by omega)
            clear hend hw hE00 hE hT hno KR2 HE1 KR1
            have KQ1 : Hid (∀ w, Calls Tryz.prog 101 #[.string E] w fun e w' => e = .returned (.tuple #[.string (natS N), .int .i64 0]) ∧ Below w.heap.size w w') := K3
            clear K3
            rcases hcase with g1 | ⟨g1, g2⟩
            all_goals
              go_wp2_with fail
              refine (KQ1.out _).mono ?_
              rintro ee w3 ⟨rfl, hb⟩
              replace T0 := T0.step hb
              clear hb KQ1
              go_wp2_with fail
              rw [HN.out]
              refine (KW1.out _).mono ?_
              rintro ee w4 ⟨rfl, hb⟩
              replace T0 := T0.step hb
              clear hb KW1 HN
              go_wp2_with fail
              refine (KT1.out _).mono ?_
              rintro ee w5 ⟨rfl, hb⟩
              replace T0 := T0.step hb
              clear hb KT1
              go_wp2_with fail
              refine (KL1.out _).mono ?_
              rintro ee w6 ⟨rfl, hb⟩
              replace T0 := T0.step hb
              clear hb KL1
              obtain ⟨q0, q1, q2, q3, q4, q5, q6⟩ := T0.res0
              have hfin := below_put3 T0.1 (Nat.le_refl _)
              go_wp2_with fail
              refine bodyPost_ret (v := .tuple #[qv Q, .int .i64 0]) (by simp [results, Tryz.results48, go_sem, q0, q1, q2, q3, qv]) rfl ⟨rfl, hfin _ _ _⟩
end Go.Proofs.YtajcapliokblfaaGreatDoor
namespace Go.Proofs.YtajcapliokblfaaGreatDoor
open Go Go.RowKit Nt Go.Lib
theorem natS_10r : natS 10 = ⟨#[10]⟩ := natS_one (by decide) (by decide)
theorem rPow10_c (n : Nat) (w : World) (h : n ≤ 9096) : Calls Tryz.prog 105 #[.string ⟨#[10]⟩, .int .i64 (n : Nat)] w fun e w' => e = .returned (.tuple #[.string (natS (10 ^ n)), .int .i64 0]) ∧ Below w.heap.size w w' := by
  by_cases h0 : n = 0
  · subst h0; exact rPow_zero _ w
  · have hp := rPow_c 10 n w fits_10 (by decide) (by decide) h0 (by omega)
    rw [resS_ok (ten_fits n h), resE_ok (ten_fits n h), natS_10r] at hp
    exact hp
theorem sign_way (s : ByteArray) : (¬ 0 < s.size ∧ begB 45 s = false ∧ offB 45 s = s) ∨ (0 < s.size ∧ begB 45 s = false ∧ offB 45 s = s ∧ ∀ h : 0 < s.size, ((s[0].toNat : Int) == 45) = false) ∨ (0 < s.size ∧ begB 45 s = true ∧ (∀ w, (Instr.slice 9 (.string s) (some (.int .i64 1)) none none).run Tryz.prog w = .ok (.string (offB 45 s)) w) ∧ ∀ h : 0 < s.size, ((s[0].toNat : Int) == 45) = true) := by
  rcases beg_ways 45 s with ⟨a, b⟩ | ⟨a, b, c⟩ | ⟨a, b, c⟩
  · exact Or.inl ⟨a, b, offB_f (by rw [b]; exact Bool.false_ne_true)⟩
  · exact Or.inr (Or.inl ⟨a, b, offB_f (by rw [b]; exact Bool.false_ne_true), c⟩)
  · refine Or.inr (Or.inr ⟨a, b, fun w => ?_, c⟩)
    rw [offB_t b]
    exact run_slice_string_l (P := Tryz.prog) w 9 s Tryz.underlying9 .i64 1 (by omega) (by omega)
theorem rDecimal4_c (s : ByteArray) (w : World) (hz : s.size ≤ 9223372036854775807) : Calls Tryz.prog 48 #[.string s] w (DcPost s w) := by
  unfold DcPost
  by_cases h4 : 4096 < s.size
  · obtain ⟨e1, e2, e3, e4⟩ := dc_long h4
    rw [e1, e2, e3, e4]
    exact rDec4_long s w h4 hz
  · have hs : s.size ≤ 4096 := by omega
    have ho := offB_size 45 s
    have way := sign_way s
    have KP := fun w => rParted_c (offB 45 s) w (by omega)
    by_cases hk : zOk (offB 45 s)
    · have KQ : ∀ w, Calls Tryz.prog 104 #[.string (offB 45 s)] w fun e w' => e = .returned (.tuple #[.string (zH (offB 45 s)), .string (zT (offB 45 s)), .string (zW (offB 45 s)), .bool true]) ∧ Below w.heap.size w w' := fun w => (KP w).mono (by
        rintro e w' ⟨⟨a, b, c, ok, rfl, h1, h2⟩, hb⟩
        have h3 := h1.2 hk
        subst h3
        obtain ⟨rfl, rfl, rfl⟩ := h2 rfl
        exact ⟨rfl, hb⟩)
      obtain ⟨k1, k2, k3, k4, hp0, hp1⟩ := zK_facts hk
      have hKs : (zK (offB 45 s)).size ≤ 5000 := by omega
      have hD := zHT (offB 45 s)
      have hDs := zD_size (offB 45 s)
      have hTs := zT_size (offB 45 s)
      have hB := zB_le (offB 45 s)
      have hH := zH_size (offB 45 s)
      have hNp := hk.1
      have hN := zN_le (offB 45 s)
      have hD0 : 0 < (zD (offB 45 s)).size := by rw [← hD, ByteArray.size_append]; omega
      have hdig := zD_dig (offB 45 s)
      have rPt : zL (offB 45 s) = true → ∀ w, (Instr.slice 9 (.string (zW (offB 45 s))) (some (.int .i64 1)) none none).run Tryz.prog w = .ok (.string (zK (offB 45 s))) w := fun hl w => by
        have e : zK (offB 45 s) = (zW (offB 45 s)).extract 1 (zW (offB 45 s)).size := by unfold zK; rw [if_pos hl]
        rw [e]
        exact run_slice_string_l (P := Tryz.prog) w 9 _ Tryz.underlying9 .i64 1 (by omega) (by omega)
      have rPf : ¬ zL (offB 45 s) = true → zK (offB 45 s) = zW (offB 45 s) := fun hl => by unfold zK; rw [if_neg hl]
      by_cases h5 : dcM (offB 45 s) ≤ 5000
      · have hok : dcOk s := ⟨hs, hk, h5⟩
        obtain ⟨e1, e2, e3, e4⟩ := dc_ok hok
        have hB9 := dc_fits hok
        have hfq : qfits (dcQ s) := ⟨fits_nd hB9.1 (by decide), fits_nd hB9.2 (by decide)⟩
        obtain ⟨f1, f2, f3, f4⟩ := rs_ok hfq
        rw [e1, e2, e3, e4, f1, f2, f3, f4]
        obtain ⟨N, hNN⟩ : ∃ N, N = preV (zD (offB 45 s)) (zD (offB 45 s)).size := ⟨_, rfl⟩
        have hNb : nd 256 N ≤ 1710 := by
          have := num_bytes hdig
          rw [hNN]; omega
        have hNf : fits N := fits_nd hNb (by decide)
        have KR : ∀ k w, k < (zD (offB 45 s)).size → (∀ j (hj : j < (zD (offB 45 s)).size), j < k → (zD (offB 45 s))[j].toNat = 48) → ((zD (offB 45 s)).size = k + 1 ∨ ∃ hj : k < (zD (offB 45 s)).size, (zD (offB 45 s))[k].toNat ≠ 48) → Calls Tryz.prog 101 #[.string ((zD (offB 45 s)).extract k (zD (offB 45 s)).size)] w fun e w' => e = .returned (.tuple #[.string (natS N), .int .i64 0]) ∧ Below w.heap.size w w' := fun k w h1 h2 h3 => by
          obtain ⟨r1, r2⟩ := rt_strip hdig h1 h2 h3 (by rw [← hNN]; exact hNf)
          have := rRead2_c ((zD (offB 45 s)).extract k (zD (offB 45 s)).size) w (by rw [ByteArray.size_extract]; omega)
          rwa [r1, r2, ← hNN] at this
        have hQ : dcQ s = fr (begB 45 s) (N * 10 ^ dcU (offB 45 s)) (10 ^ dcV (offB 45 s)) := by unfold dcQ; rw [hNN]
        have L1 : zT (offB 45 s) = zT (offB 45 s) := rfl
        have key : ∀ (p : Int), p = (if zL (offB 45 s) = true then -(dcM (offB 45 s) : Int) else (dcM (offB 45 s) : Int)) - (zB (offB 45 s) : Int) → p.natAbs ≤ 9096 := fun p hp => by
          split at hp <;> omega
        cases hl : zL (offB 45 s) with
        | true =>
          obtain ⟨p, hp⟩ : ∃ p : Int, p = -(dcM (offB 45 s) : Int) - (zB (offB 45 s) : Int) := ⟨_, rfl⟩
          have hp' : p = (if zL (offB 45 s) = true then -(dcM (offB 45 s) : Int) else (dcM (offB 45 s) : Int)) - (zB (offB 45 s) : Int) := by rw [if_pos hl]; exact hp
          have hn9 := key p hp'
          obtain ⟨n, hn⟩ : ∃ n, n = p.natAbs := ⟨_, rfl⟩
          obtain ⟨w1, w2⟩ := dc_pow hp' hn
          have hmx : max (-(dcM (offB 45 s) : Int) - ((zT (offB 45 s)).size : Int)) (-(-(dcM (offB 45 s) : Int) - ((zT (offB 45 s)).size : Int))) = (n : Int) := by rw [hTs, ← hp]; omega
          have hTb := ten_bytes n
          by_cases hs0 : p < 0
          · obtain ⟨u0, v0⟩ := w1 hs0
            refine rDec4_tn s (offB 45 s) (zH (offB 45 s)) (zT (offB 45 s)) (zW (offB 45 s)) (zK (offB 45 s)) (zD (offB 45 s)) (begB 45 s) (dcM (offB 45 s)) N (10 ^ n) n (dcQ s) w hs (by omega) way KQ hp0 (fun _ => hp1.trans hl) (rPt hl) k1 hKs k3 h5 hD hD0 (by omega) (by omega) (by omega) KR (by rw [hTs, ← hp]; exact hs0) hmx (fun w => rPow10_c n w (by omega)) (fun w => ?_)
            have := rLow4_c (begB 45 s) N (10 ^ n) w (Nat.pos_iff_ne_zero.1 (Nat.pow_pos (by omega))) (by omega) (by omega)
            rw [hQ, u0, v0, Nat.pow_zero, Nat.mul_one]
            exact this
          · obtain ⟨u0, v0⟩ := w2 hs0
            have hn0 : n = 0 := by omega
            refine rDec4_tp s (offB 45 s) (zH (offB 45 s)) (zT (offB 45 s)) (zW (offB 45 s)) (zK (offB 45 s)) (zD (offB 45 s)) (begB 45 s) (dcM (offB 45 s)) N (10 ^ n) n (N * 10 ^ n) (dcQ s) w hs (by omega) way KQ hp0 (fun _ => hp1.trans hl) (rPt hl) k1 hKs k3 h5 hD hD0 (by omega) (by omega) (by omega) KR (by rw [hTs, ← hp]; exact hs0) hmx (fun w => rPow10_c n w (by omega)) (fun w => rTimes4_c N (10 ^ n) w (by omega) (by omega)) (fun w => ?_)
            have := rLow4_c (begB 45 s) (N * 10 ^ n) 1 w (by decide) (Nat.le_trans (ndB_mul _ _) (by omega)) (by rw [show nd 256 1 = 1 by rw [nd_step (by omega) (by omega), show 1 / 256 = 0 by rfl, nd_zero]]; omega)
            rw [natS_1r] at this
            rw [hQ, u0, v0, Nat.pow_zero]
            exact this
        | false =>
          have hl' : ¬ zL (offB 45 s) = true := by rw [hl]; exact Bool.false_ne_true
          obtain ⟨p, hp⟩ : ∃ p : Int, p = (dcM (offB 45 s) : Int) - (zB (offB 45 s) : Int) := ⟨_, rfl⟩
          have hp' : p = (if zL (offB 45 s) = true then -(dcM (offB 45 s) : Int) else (dcM (offB 45 s) : Int)) - (zB (offB 45 s) : Int) := by rw [if_neg hl']; exact hp
          have hn9 := key p hp'
          obtain ⟨n, hn⟩ : ∃ n, n = p.natAbs := ⟨_, rfl⟩
          obtain ⟨w1, w2⟩ := dc_pow hp' hn
          have hmx : max ((dcM (offB 45 s) : Int) - ((zT (offB 45 s)).size : Int)) (-((dcM (offB 45 s) : Int) - ((zT (offB 45 s)).size : Int))) = (n : Int) := by rw [hTs, ← hp]; omega
          have hTb := ten_bytes n
          by_cases hs0 : p < 0
          · obtain ⟨u0, v0⟩ := w1 hs0
            refine rDec4_fn s (offB 45 s) (zH (offB 45 s)) (zT (offB 45 s)) (zW (offB 45 s)) (zK (offB 45 s)) (zD (offB 45 s)) (begB 45 s) (dcM (offB 45 s)) N (10 ^ n) n (dcQ s) w hs (by omega) way KQ hp0 (fun _ => hp1.trans hl) (rPf hl') k1 hKs k3 h5 hD hD0 (by omega) (by omega) (by omega) KR (by rw [hTs, ← hp]; exact hs0) hmx (fun w => rPow10_c n w (by omega)) (fun w => ?_)
            have := rLow4_c (begB 45 s) N (10 ^ n) w (Nat.pos_iff_ne_zero.1 (Nat.pow_pos (by omega))) (by omega) (by omega)
            rw [hQ, u0, v0, Nat.pow_zero, Nat.mul_one]
            exact this
          · obtain ⟨u0, v0⟩ := w2 hs0
            have hn5 : n ≤ 5000 := by omega
            refine rDec4_fp s (offB 45 s) (zH (offB 45 s)) (zT (offB 45 s)) (zW (offB 45 s)) (zK (offB 45 s)) (zD (offB 45 s)) (begB 45 s) (dcM (offB 45 s)) N (10 ^ n) n (N * 10 ^ n) (dcQ s) w hs (by omega) way KQ hp0 (fun _ => hp1.trans hl) (rPf hl') k1 hKs k3 h5 hD hD0 (by omega) (by omega) (by omega) KR (by rw [hTs, ← hp]; exact hs0) hmx (fun w => rPow10_c n w (by omega)) (fun w => rTimes4_c N (10 ^ n) w (by omega) (by omega)) (fun w => ?_)
            have := rLow4_c (begB 45 s) (N * 10 ^ n) 1 w (by decide) (Nat.le_trans (ndB_mul _ _) (by omega)) (by rw [show nd 256 1 = 1 by rw [nd_step (by omega) (by omega), show 1 / 256 = 0 by rfl, nd_zero]]; omega)
            rw [natS_1r] at this
            rw [hQ, u0, v0, Nat.pow_zero]
            exact this
      · obtain ⟨e1, e2, e3, e4⟩ := dc_far hs hk h5
        rw [e1, e2, e3, e4]
        cases hl : zL (offB 45 s) with
        | true => exact rDec4_far_t s (offB 45 s) (zH (offB 45 s)) (zT (offB 45 s)) (zW (offB 45 s)) (zK (offB 45 s)) (begB 45 s) (dcM (offB 45 s)) w hs (by omega) way KQ hp0 (fun _ => hp1.trans hl) (rPt hl) k1 hKs k3 (by omega)
        | false =>
          have hl' : ¬ zL (offB 45 s) = true := by rw [hl]; exact Bool.false_ne_true
          exact rDec4_far_f s (offB 45 s) (zH (offB 45 s)) (zT (offB 45 s)) (zW (offB 45 s)) (zK (offB 45 s)) (begB 45 s) (dcM (offB 45 s)) w hs (by omega) way KQ hp0 (fun _ => hp1.trans hl) (rPf hl') k1 hKs k3 (by omega)
    · obtain ⟨e1, e2, e3, e4⟩ := dc_bad hs hk
      rw [e1, e2, e3, e4]
      refine rDec4_bad s (offB 45 s) (begB 45 s) w hs way (fun w => (KP w).mono ?_)
      rintro e w' ⟨⟨a, b, c, ok, rfl, h1, h2⟩, hb⟩
      have h3 : ok = false := by cases ok with
        | false => rfl
        | true => exact absurd (h1.1 rfl) hk
      subst h3
      exact ⟨⟨a, b, c, rfl⟩, hb⟩
end Go.Proofs.YtajcapliokblfaaGreatDoor
namespace Go.Proofs.YtajcapliokblfaaGreatDoor
open Go Go.RowKit Nt
section
variable [Env]
theorem opt_idxS0 {A B r : AV} {s : ByteArray} (ha : gval A = .string s) (hb : gval B = .int .i64 0) (h : 0 < s.size) (hr : ground r = true) (hv : gval r = .int .u8 (s[0].toNat : Nat)) : OpT Tryz.prog [3, 9] [A, B] r := by
  refine ⟨hr, fun o xs hk ρ hρ hx w => ?_⟩
  unfold keyOf at hk
  obtain ⟨dst, o, type, pos, after, guard⟩ := o
  simp only at hk
  split at hk
  case h_4 t' x ix =>
    have hk' : ([3, t'], [x, ix]) = ([3, 9], xs) := Option.some.inj hk
    have h1 : t' = 9 := (List.cons.inj (List.cons.inj (Prod.mk.inj hk').1).2).1
    have h3 : [x, ix] = xs := (Prod.mk.inj hk').2
    subst h1 h3
    have hx1 : ρ x = .string s := by have := (List.cons.inj hx).1; rw [this, ha]
    have hx2 : ρ ix = .int .i64 0 := by have := (List.cons.inj (List.cons.inj hx).2).1; rw [this, hb]
    rw [hv]
    have hb' : s[0]? = some s[0] := getElem?_pos s 0 h
    simp [execOp, resolve, Deferred.ofValue, hx1, hx2, Instr.index, asIntOf, run_underlying Tryz.underlying9, hb']
  all_goals first
    | (simp only [Option.some.injEq, Prod.mk.injEq, List.cons.injEq] at hk; have := hk.1.1; omega)
    | (split at hk <;> first | (simp only [Option.some.injEq, Prod.mk.injEq, List.cons.injEq] at hk; have := hk.1.1; omega) | cases hk)
    | cases hk
end
open Classical in
@[irreducible] noncomputable def nrF (s : ByteArray) : Nat := if dcOk s then (if qN (dcQ s) = 0 then Bt.wf (begB 45 s) 0 else QW 0 (dcQ s)) else 0
theorem nrF_no {s : ByteArray} (h : ¬ dcOk s) : nrF s = 0 := by unfold nrF; rw [if_neg h]
theorem nrF_z {s : ByteArray} (h : dcOk s) (h0 : qN (dcQ s) = 0) : nrF s = Bt.wf (begB 45 s) 0 := by unfold nrF; rw [if_pos h, if_pos h0]
theorem nrF_q {s : ByteArray} (h : dcOk s) (h0 : qN (dcQ s) ≠ 0) : nrF s = QW 0 (dcQ s) := by unfold nrF; rw [if_pos h, if_neg h0]
theorem dc_fit {s : ByteArray} (h : dcOk s) : qfits (dcQ s) := ⟨fits_nd (dc_fits h).1 (by decide), fits_nd (dc_fits h).2 (by decide)⟩
theorem dc_val {s : ByteArray} (h : dcOk s) : dcG s = qG (dcQ s) ∧ dcN s = natS (qN (dcQ s)) ∧ dcD s = natS (qD (dcQ s)) ∧ dcE s = 0 := by
  obtain ⟨e1, e2, e3, e4⟩ := dc_ok h
  obtain ⟨f1, f2, f3, f4⟩ := rs_ok (dc_fit h)
  rw [e1, e2, e3, e4]; exact ⟨f1, f2, f3, f4⟩
theorem dcE_no {s : ByteArray} (h : ¬ dcOk s) : dcE s ≠ 0 := by
  by_cases h4 : 4096 < s.size
  · rw [(dc_long h4).2.2.2]; decide
  · by_cases hz : zOk (offB 45 s)
    · rw [(dc_far (by omega) hz (fun c => h ⟨by omega, hz, c⟩)).2.2.2]; decide
    · rw [(dc_bad (by omega) hz).2.2.2]; decide
theorem PDec_q (s : ByteArray) (h : dcOk s) (hz : s.size ≤ 9223372036854775806) (w : World) : Calls Tryz.prog 47 #[.string s] w fun e w' => e = .returned (.tuple #[qv (dcQ s), .int .i64 0]) ∧ Below w.heap.size w w' := by
  have := PDecimal_c s w (by omega)
  unfold DcPost at this
  obtain ⟨e1, e2, e3, e4⟩ := dc_val h
  rwa [e1, e2, e3, e4] at this
theorem rDec_q (s : ByteArray) (h : dcOk s) (hz : s.size ≤ 9223372036854775806) (w : World) : Calls Tryz.prog 48 #[.string s] w fun e w' => e = .returned (.tuple #[qv (dcQ s), .int .i64 0]) ∧ Below w.heap.size w w' := by
  have := rDecimal4_c s w (by omega)
  unfold DcPost at this
  obtain ⟨e1, e2, e3, e4⟩ := dc_val h
  rwa [e1, e2, e3, e4] at this
theorem PDec_n (s : ByteArray) (h : ¬ dcOk s) (hz : s.size ≤ 9223372036854775806) (w : World) : Calls Tryz.prog 47 #[.string s] w fun e w' => e = .returned (.tuple #[.agg #[.bool false, .string ⟨#[]⟩, .string ⟨#[]⟩], .int .i64 (dcE s)]) ∧ Below w.heap.size w w' := by
  have := PDecimal_c s w (by omega)
  unfold DcPost at this
  obtain ⟨e1, e2, e3⟩ := dc_no h
  rwa [e1, e2, e3] at this
theorem rDec_n (s : ByteArray) (h : ¬ dcOk s) (hz : s.size ≤ 9223372036854775806) (w : World) : Calls Tryz.prog 48 #[.string s] w fun e w' => e = .returned (.tuple #[.agg #[.bool false, .string ⟨#[]⟩, .string ⟨#[]⟩], .int .i64 (dcE s)]) ∧ Below w.heap.size w w' := by
  have := rDecimal4_c s w (by omega)
  unfold DcPost at this
  obtain ⟨e1, e2, e3⟩ := dc_no h
  rwa [e1, e2, e3] at this
theorem beg_at (s : ByteArray) (hp0 : 0 < s.size) : ((s[0].toNat : Nat) : Int) = 45 ↔ begB 45 s = true := by
  rw [begB_iff]
  constructor
  · intro e
    refine ⟨hp0, UInt8.toNat_inj.1 ?_⟩
    have e2 : (45 : UInt8).toNat = 45 := rfl
    omega
  · rintro ⟨_, e⟩
    rw [e]; rfl
theorem nat_nil {n : Nat} : natS n = ⟨#[]⟩ ↔ n = 0 := by
  constructor
  · intro h
    have := congrArg bytesN h
    rw [bytesN_natS] at this
    exact this
  · rintro rfl; exact natS_zero
@[reducible] def PNear_no_f : FuncId := 49
@[reducible] def PNear_no_a : List AV := [.sym 0]
@[reducible] noncomputable def PNear_no_k : Know := ⟨[([0, 12, 30], [.sym 1, .lit (.int .i64 0)], .lit (.bool true))],
  [(47, [.sym 0], .tup [.lit (.agg #[.bool false, .string ⟨#[]⟩, .string ⟨#[]⟩]), .sym 1])]⟩
theorem PNear_no_r1 : @comes PNear_no_k Tryz.prog glT 3000 PNear_no_f PNear_no_a = some (.tup [.lit (.float .f64 0), .sym 1]) := by kernel_rfl
set_option maxRecDepth 100000 in
set_option maxHeartbeats 4000000 in
theorem PNear_no (s : ByteArray) (w : World) (hG : Globs glT w) (h : ¬ dcOk s) (hz : s.size ≤ 9223372036854775806) : Calls Tryz.prog 49 #[.string (s)] w fun e w' => e = .returned (.tuple #[.float .f64 0, .int .i64 (dcE s)]) ∧ Below w.heap.size w w' := by
  have h1 : ¬ (dcE s = 0) := (dcE_no h)
  have i1 : false = true ↔ (dcE s = 0) := ⟨fun k => absurd k Bool.false_ne_true, fun k => absurd k h1⟩
  letI : Env := mkEnv glT [.string (s), .int .i64 (dcE s)] rfl
  have hops : OpsT Tryz.prog (@Know.ops PNear_no_k) := ⟨opt_neq_i rfl rfl i1,
    trivial⟩
  have hcalls : CallsT Tryz.prog (@Know.calls PNear_no_k) := ⟨callt rfl rfl fun w hG => PDec_n s h hz w,
    trivial⟩
  have fin : ∀ v, @comes PNear_no_k Tryz.prog glT 3000 PNear_no_f PNear_no_a = some v → ground v = true → Ending.returned (gval v) = .returned (.tuple #[.float .f64 0, .int .i64 (dcE s)]) → Calls Tryz.prog 49 #[.string (s)] w fun e w' => e = .returned (.tuple #[.float .f64 0, .int .i64 (dcE s)]) ∧ Below w.heap.size w w' := fun v h1 h2 h3 => (@sym_ok _ PNear_no_k _ (@KnowOk.of _ PNear_no_k _ hops hcalls) (by kernel_rfl) _ _ _ _ h1 rfl h2 _ hG).mono fun e w' h => ⟨h.1.trans h3, h.2⟩
  clear hops hcalls
  exact fin _ (PNear_no_r1) rfl rfl
@[reducible] def rNear4_no_f : FuncId := 50
@[reducible] def rNear4_no_a : List AV := [.sym 0]
@[reducible] noncomputable def rNear4_no_k : Know := ⟨[([0, 12, 3], [.sym 1, .lit (.int .i64 0)], .lit (.bool true))],
  [(48, [.sym 0], .tup [.lit (.agg #[.bool false, .string ⟨#[]⟩, .string ⟨#[]⟩]), .sym 1])]⟩
theorem rNear4_no_r1 : @comes rNear4_no_k Tryz.prog glT 3000 rNear4_no_f rNear4_no_a = some (.tup [.lit (.float .f64 0), .sym 1]) := by kernel_rfl
set_option maxRecDepth 100000 in
set_option maxHeartbeats 4000000 in
theorem rNear4_no (s : ByteArray) (w : World) (hG : Globs glT w) (h : ¬ dcOk s) (hz : s.size ≤ 9223372036854775806) : Calls Tryz.prog 50 #[.string (s)] w fun e w' => e = .returned (.tuple #[.float .f64 0, .int .i64 (dcE s)]) ∧ Below w.heap.size w w' := by
  have h1 : ¬ (dcE s = 0) := (dcE_no h)
  have i1 : false = true ↔ (dcE s = 0) := ⟨fun k => absurd k Bool.false_ne_true, fun k => absurd k h1⟩
  letI : Env := mkEnv glT [.string (s), .int .i64 (dcE s)] rfl
  have hops : OpsT Tryz.prog (@Know.ops rNear4_no_k) := ⟨opt_neq_i rfl rfl i1,
    trivial⟩
  have hcalls : CallsT Tryz.prog (@Know.calls rNear4_no_k) := ⟨callt rfl rfl fun w hG => rDec_n s h hz w,
    trivial⟩
  have fin : ∀ v, @comes rNear4_no_k Tryz.prog glT 3000 rNear4_no_f rNear4_no_a = some v → ground v = true → Ending.returned (gval v) = .returned (.tuple #[.float .f64 0, .int .i64 (dcE s)]) → Calls Tryz.prog 50 #[.string (s)] w fun e w' => e = .returned (.tuple #[.float .f64 0, .int .i64 (dcE s)]) ∧ Below w.heap.size w w' := fun v h1 h2 h3 => (@sym_ok _ rNear4_no_k _ (@KnowOk.of _ rNear4_no_k _ hops hcalls) (by kernel_rfl) _ _ _ _ h1 rfl h2 _ hG).mono fun e w' h => ⟨h.1.trans h3, h.2⟩
  clear hops hcalls
  exact fin _ (rNear4_no_r1) rfl rfl
theorem QW_z {q : Rat} (h : qN q = 0) : QW 0 q = Bt.wf false 0 := by
  have e : QW 0 q = 0 := by unfold QW; exact if_pos h
  rw [e, Bt.wf_eq]; rfl
@[reducible] def PNear_q_f : FuncId := 49
@[reducible] def PNear_q_a : List AV := [.sym 0]
@[reducible] noncomputable def PNear_q_k (b1 b2 : Bool) : Know := ⟨[([0, 11, 22], [.sym 2, .lit (.string ⟨#[]⟩)], .lit (.bool b2))],
  [(47, [.sym 0], .tup [.agg [.sym 1, .sym 2, .sym 3], .lit (.int .i64 0)]),
  (106, [.sym 0, .lit (.string ⟨#[45]⟩)], .lit (.bool b1)),
  (107, [.lit (.float .f64 0), .lit (.float .f64 13830554455654793216)], .sym 4),
  (35, [.agg [.sym 1, .sym 2, .sym 3]], .tup [.sym 5, .lit (.int .i64 0)])]⟩
theorem PNear_q_r1 : @comes (PNear_q_k true true) Tryz.prog glT 3000 PNear_q_f PNear_q_a = some (.tup [.sym 4, .lit (.int .i64 0)]) := by kernel_rfl
theorem PNear_q_r2 : @comes (PNear_q_k false true) Tryz.prog glT 3000 PNear_q_f PNear_q_a = some (.tup [.sym 5, .lit (.int .i64 0)]) := by kernel_rfl
theorem PNear_q_r3 (b1 : Bool) : @comes (PNear_q_k b1 false) Tryz.prog glT 3000 PNear_q_f PNear_q_a = some (.tup [.sym 5, .lit (.int .i64 0)]) := by kernel_rfl
set_option maxRecDepth 100000 in
set_option maxHeartbeats 4000000 in
theorem PNear_q (s : ByteArray) (w : World) (hG : Globs glT w) (h : dcOk s) (hz : s.size ≤ 9223372036854775806) : Calls Tryz.prog 49 #[.string (s)] w fun e w' => e = .returned (.tuple #[.float .f64 (nrF s), .int .i64 0]) ∧ Below w.heap.size w w' := by
  obtain ⟨b1, i1⟩ := bex (begB 45 s = true)
  obtain ⟨b2, i2⟩ := bex (natS (qN (dcQ s)) = ⟨#[]⟩)
  letI : Env := mkEnv glT [.string (s), .bool (qG (dcQ s)), .string (natS (qN (dcQ s))), .string (natS (qD (dcQ s))), .float .f64 (Bt.wf true 0), .float .f64 (QW 0 (dcQ s))] rfl
  have hops : OpsT Tryz.prog (@Know.ops (PNear_q_k b1 b2)) := ⟨optS_eql_i rfl rfl i2,
    trivial⟩
  have hcalls : CallsT Tryz.prog (@Know.calls (PNear_q_k b1 b2)) := ⟨callt rfl rfl fun w hG => PDec_q s h hz w,
    callt rfl rfl fun w hG => (by have hh := PHasPrefix_c 45 s w; rwa [← show _ = begB 45 s from Bool.eq_iff_iff.2 i1] at hh),
    callt rfl rfl fun w hG => (rCopysign_c 0 (by decide) w).mono fun e w' hh => ⟨hh.1, by rw [hh.2]; exact Below.refl _ _⟩,
    callt rfl rfl fun w hG => PFloat_c (dcQ s) w hG (dc_fit h),
    trivial⟩
  have fin : ∀ v, @comes (PNear_q_k b1 b2) Tryz.prog glT 3000 PNear_q_f PNear_q_a = some v → ground v = true → Ending.returned (gval v) = .returned (.tuple #[.float .f64 (nrF s), .int .i64 0]) → Calls Tryz.prog 49 #[.string (s)] w fun e w' => e = .returned (.tuple #[.float .f64 (nrF s), .int .i64 0]) ∧ Below w.heap.size w w' := fun v h1 h2 h3 => (@sym_ok _ (PNear_q_k b1 b2) _ (@KnowOk.of _ (PNear_q_k b1 b2) _ hops hcalls) (by kernel_rfl) _ _ _ _ h1 rfl h2 _ hG).mono fun e w' h => ⟨h.1.trans h3, h.2⟩
  clear hops hcalls
  cases b2 with
  | true =>
    have h2 : natS (qN (dcQ s)) = ⟨#[]⟩ := i2.1 rfl
    cases b1 with
    | true =>
      have h1 : begB 45 s = true := i1.1 rfl
      exact fin _ (PNear_q_r1) rfl (show Ending.returned (.tuple #[.float .f64 (Bt.wf true 0), .int .i64 0]) = .returned (.tuple #[.float .f64 (nrF s), .int .i64 0]) from (by rw [nrF_z h (nat_nil.1 h2), h1]))
    | false =>
      have h1 : ¬ (begB 45 s = true) := fun c => Bool.false_ne_true (i1.2 c)
      exact fin _ (PNear_q_r2) rfl (show Ending.returned (.tuple #[.float .f64 (QW 0 (dcQ s)), .int .i64 0]) = .returned (.tuple #[.float .f64 (nrF s), .int .i64 0]) from (by rw [nrF_z h (nat_nil.1 h2), Bool.eq_false_iff.2 h1, QW_z (nat_nil.1 h2)]))
  | false =>
    have h2 : ¬ (natS (qN (dcQ s)) = ⟨#[]⟩) := fun c => Bool.false_ne_true (i2.2 c)
    exact fin _ (PNear_q_r3 b1) rfl (show Ending.returned (.tuple #[.float .f64 (QW 0 (dcQ s)), .int .i64 0]) = .returned (.tuple #[.float .f64 (nrF s), .int .i64 0]) from (by rw [nrF_q h (fun c => h2 (nat_nil.2 c))]))
@[reducible] def rNear4_q_f : FuncId := 50
@[reducible] def rNear4_q_a : List AV := [.sym 0]
@[reducible] noncomputable def rNear4_q_k (b1 b2 : Bool) : Know := ⟨[([0, 11, 22], [.sym 2, .lit (.string ⟨#[]⟩)], .lit (.bool b1)),
  ([3, 9], [.sym 0, .lit (.int .i64 0)], .sym 5),
  ([0, 11, 5], [.sym 5, .lit (.int .u8 45)], .lit (.bool b2))],
  [(48, [.sym 0], .tup [.agg [.sym 1, .sym 2, .sym 3], .lit (.int .i64 0)]),
  (95, [.lit (.bool true), .lit (.float .f64 0)], .sym 4),
  (95, [.lit (.bool false), .lit (.float .f64 0)], .sym 6),
  (40, [.agg [.sym 1, .sym 2, .sym 3]], .sym 7)]⟩
theorem rNear4_q_r1 : @comes (rNear4_q_k true true) Tryz.prog glT 3000 rNear4_q_f rNear4_q_a = some (.tup [.sym 4, .lit (.int .i64 0)]) := by kernel_rfl
theorem rNear4_q_r2 : @comes (rNear4_q_k true false) Tryz.prog glT 3000 rNear4_q_f rNear4_q_a = some (.tup [.sym 6, .lit (.int .i64 0)]) := by kernel_rfl
theorem rNear4_q_r3 (b2 : Bool) : @comes (rNear4_q_k false b2) Tryz.prog glT 3000 rNear4_q_f rNear4_q_a = some (.tup [.sym 7, .lit (.int .i64 0)]) := by kernel_rfl
set_option maxRecDepth 100000 in
set_option maxHeartbeats 4000000 in
theorem rNear4_q (s : ByteArray) (w : World) (hG : Globs glT w) (h : dcOk s) (hz : s.size ≤ 9223372036854775806) (hp0 : 0 < s.size) : Calls Tryz.prog 50 #[.string (s)] w fun e w' => e = .returned (.tuple #[.float .f64 (nrF s), .int .i64 0]) ∧ Below w.heap.size w w' := by
  obtain ⟨b1, i1⟩ := bex (natS (qN (dcQ s)) = ⟨#[]⟩)
  obtain ⟨b2, i2⟩ := bex ((((s)[0]'hp0).toNat : Int) = 45)
  letI : Env := mkEnv glT [.string (s), .bool (qG (dcQ s)), .string (natS (qN (dcQ s))), .string (natS (qD (dcQ s))), .float .f64 (Bt.wf true 0), .int .u8 (((s)[0]'hp0).toNat : Nat), .float .f64 (Bt.wf false 0), .float .f64 (QW 0 (dcQ s))] rfl
  have hops : OpsT Tryz.prog (@Know.ops (rNear4_q_k b1 b2)) := ⟨optS_eql_i rfl rfl i1,
    opt_idxS0 rfl rfl hp0 rfl rfl,
    opt_eql_i rfl rfl i2,
    trivial⟩
  have hcalls : CallsT Tryz.prog (@Know.calls (rNear4_q_k b1 b2)) := ⟨callt rfl rfl fun w hG => rDec_q s h hz w,
    callt rfl rfl fun w hG => (rSgn4_c true 0 (by decide) w).mono fun e w' hh => ⟨hh.1, by rw [hh.2]; exact Below.refl _ _⟩,
    callt rfl rfl fun w hG => (rSgn4_c false 0 (by decide) w).mono fun e w' hh => ⟨hh.1, by rw [hh.2]; exact Below.refl _ _⟩,
    callt rfl rfl fun w hG => rFloat4_c (dcQ s) w ((dc_fits h).le (by decide)),
    trivial⟩
  have fin : ∀ v, @comes (rNear4_q_k b1 b2) Tryz.prog glT 3000 rNear4_q_f rNear4_q_a = some v → ground v = true → Ending.returned (gval v) = .returned (.tuple #[.float .f64 (nrF s), .int .i64 0]) → Calls Tryz.prog 50 #[.string (s)] w fun e w' => e = .returned (.tuple #[.float .f64 (nrF s), .int .i64 0]) ∧ Below w.heap.size w w' := fun v h1 h2 h3 => (@sym_ok _ (rNear4_q_k b1 b2) _ (@KnowOk.of _ (rNear4_q_k b1 b2) _ hops hcalls) (by kernel_rfl) _ _ _ _ h1 rfl h2 _ hG).mono fun e w' h => ⟨h.1.trans h3, h.2⟩
  clear hops hcalls
  cases b1 with
  | true =>
    have h1 : natS (qN (dcQ s)) = ⟨#[]⟩ := i1.1 rfl
    cases b2 with
    | true =>
      have h2 : (((s)[0]'hp0).toNat : Int) = 45 := i2.1 rfl
      exact fin _ (rNear4_q_r1) rfl (show Ending.returned (.tuple #[.float .f64 (Bt.wf true 0), .int .i64 0]) = .returned (.tuple #[.float .f64 (nrF s), .int .i64 0]) from (by rw [nrF_z h (nat_nil.1 h1), (beg_at s hp0).1 h2]))
    | false =>
      have h2 : ¬ ((((s)[0]'hp0).toNat : Int) = 45) := fun c => Bool.false_ne_true (i2.2 c)
      exact fin _ (rNear4_q_r2) rfl (show Ending.returned (.tuple #[.float .f64 (Bt.wf false 0), .int .i64 0]) = .returned (.tuple #[.float .f64 (nrF s), .int .i64 0]) from (by rw [nrF_z h (nat_nil.1 h1), Bool.eq_false_iff.2 (fun c => h2 ((beg_at s hp0).2 c))]))
  | false =>
    have h1 : ¬ (natS (qN (dcQ s)) = ⟨#[]⟩) := fun c => Bool.false_ne_true (i1.2 c)
    exact fin _ (rNear4_q_r3 b2) rfl (show Ending.returned (.tuple #[.float .f64 (QW 0 (dcQ s)), .int .i64 0]) = .returned (.tuple #[.float .f64 (nrF s), .int .i64 0]) from (by rw [nrF_q h (fun c => h1 (nat_nil.2 c))]))
end Go.Proofs.YtajcapliokblfaaGreatDoor
namespace Go.Proofs.YtajcapliokblfaaGreatDoor
open Go Go.RowKit Nt
theorem wf_ok (g : Bool) (p : Nat) (hp : p ≤ 9218868437227405312) : ¬ Bt.Ff.isn (Bt.wf g p) := by
  intro c
  have c' := (Bt.isn_iff _).1 c
  unfold Bt.Ff.rung at c'
  rw [Bt.wf_eq] at c'
  cases g
  · rw [if_neg Bool.false_ne_true] at c'; omega
  · rw [if_pos rfl, Bt.topped_eq] at c'; omega
theorem nrF_ok (s : ByteArray) : ¬ Bt.Ff.isn (nrF s) := by
  unfold nrF
  split
  · split
    · exact wf_ok _ _ (by decide)
    · exact QW_ok _ _
  · exact fun c => absurd ((Bt.isn_iff _).1 c) (by decide)
theorem PNear_c (s : ByteArray) (hz : s.size ≤ 9223372036854775806) (w : World) (hG : Globs glT w) : Calls Tryz.prog 49 #[.string s] w fun e w' => e = .returned (.tuple #[.float .f64 (nrF s), .int .i64 (dcE s)]) ∧ Below w.heap.size w w' := by
  by_cases h : dcOk s
  · rw [(dc_val h).2.2.2]; exact PNear_q s w hG h hz
  · rw [nrF_no h]; exact PNear_no s w hG h hz
theorem size_of_minus {s : ByteArray} (h : dcOk s) : 0 < s.size := by
  have h1 := h.2.1.1
  have h2 := zN_le (offB 45 s)
  have h3 := offB_size 45 s
  omega
theorem rNear4_c (s : ByteArray) (hz : s.size ≤ 9223372036854775806) (w : World) (hG : Globs glT w) : Calls Tryz.prog 50 #[.string s] w fun e w' => e = .returned (.tuple #[.float .f64 (nrF s), .int .i64 (dcE s)]) ∧ Below w.heap.size w w' := by
  by_cases h : dcOk s
  · rw [(dc_val h).2.2.2]; exact rNear4_q s w hG h hz (size_of_minus h)
  · rw [nrF_no h]; exact rNear4_no s w hG h hz
set_option maxRecDepth 100000 in
theorem optT_neq_i [Env] {A B : AV} {s t : ByteArray} {c : Bool} (ha : gval A = .string s) (hb : gval B = .string t) (h : c = true ↔ s = t) : OpT Tryz.prog [0, 12, 9] [A, B] (.lit (.bool (!c))) :=
  opt_bin (op := .neq) (r := .lit (.bool (!c))) rfl fun p q w => by
    rw [ha, hb]
    show _ = Result.ok (Value.bool (!c)) w
    by_cases h2 : s.toList = t.toList
    · rw [h.2 (str_injP h2)]
      go_simp
      try simp [h2]
    · rw [show c = false from Bool.eq_false_iff.2 (fun k => h2 (congrArg _ (h.1 k)))]
      go_simp
      try simp [h2]
theorem optT_neq_s [Env] {A B : AV} {s : ByteArray} (ha : gval A = .string s) (hb : gval B = .string s) : OpT Tryz.prog [0, 12, 9] [A, B] (.lit (.bool false)) := optT_neq_i (c := true) ha hb ⟨fun _ => rfl, fun _ => rfl⟩
@[reducible] def RatioTexts_na_f : FuncId := 6
@[reducible] def RatioTexts_na_a : List AV := [.agg [.sym 0, .sym 1, .sym 2], .sym 3]
@[reducible] noncomputable def RatioTexts_na_k : Know := ⟨[],
  [(9, [.agg [.sym 0, .sym 1, .sym 2]], .lit (.bool false)),
  (11, [], .lit (.bool true))]⟩
theorem RatioTexts_na_r1 : @comes RatioTexts_na_k Tryz.prog glT 3000 RatioTexts_na_f RatioTexts_na_a = some (.lit (.bool true)) := by kernel_rfl
set_option maxRecDepth 100000 in
set_option maxHeartbeats 4000000 in
theorem RatioTexts_na (a : Rx) (s : ByteArray) (w : World) (hG : Globs glT w) (hsa : ∀ w, Calls Tryz.prog 9 #[.agg #[.bool a.g, .string a.s, .string a.t]] w fun e w' => e = .returned (.bool false) ∧ Below w.heap.size w w') : Calls Tryz.prog 6 #[.agg #[.bool a.g, .string a.s, .string a.t], .string (s)] w fun e w' => e = .returned (.bool true) ∧ Below w.heap.size w w' := by
  letI : Env := mkEnv glT [.bool a.g, .string a.s, .string a.t, .string (s)] rfl
  have hops : OpsT Tryz.prog (@Know.ops RatioTexts_na_k) := trivial
  have hcalls : CallsT Tryz.prog (@Know.calls RatioTexts_na_k) := ⟨callt rfl rfl fun w hG => hsa w,
    callt rfl rfl fun w hG => lives4_c w hG,
    trivial⟩
  have fin : ∀ v, @comes RatioTexts_na_k Tryz.prog glT 3000 RatioTexts_na_f RatioTexts_na_a = some v → ground v = true → Ending.returned (gval v) = .returned (.bool true) → Calls Tryz.prog 6 #[.agg #[.bool a.g, .string a.s, .string a.t], .string (s)] w fun e w' => e = .returned (.bool true) ∧ Below w.heap.size w w' := fun v h1 h2 h3 => (@sym_ok _ RatioTexts_na_k _ (@KnowOk.of _ RatioTexts_na_k _ hops hcalls) (by kernel_rfl) _ _ _ _ h1 rfl h2 _ hG).mono fun e w' h => ⟨h.1.trans h3, h.2⟩
  clear hops hcalls
  exact fin _ (RatioTexts_na_r1) rfl rfl
@[reducible] def RatioTexts_lo_f : FuncId := 6
@[reducible] def RatioTexts_lo_a : List AV := [.agg [.sym 0, .sym 1, .sym 2], .sym 3]
@[reducible] noncomputable def RatioTexts_lo_k (b1 : Bool) : Know := ⟨[([6, 0, 3, 9], [.sym 3], .sym 4),
  ([0, 15, 3], [.sym 4, .lit (.int .i64 5000)], .lit (.bool b1))],
  [(9, [.agg [.sym 0, .sym 1, .sym 2]], .lit (.bool true)),
  (11, [], .lit (.bool true))]⟩
theorem RatioTexts_lo_r1 : @comes (RatioTexts_lo_k true) Tryz.prog glT 3000 RatioTexts_lo_f RatioTexts_lo_a = some (.lit (.bool true)) := by kernel_rfl
set_option maxRecDepth 100000 in
set_option maxHeartbeats 4000000 in
theorem RatioTexts_lo (a : Rx) (s : ByteArray) (w : World) (hG : Globs glT w) (hl : 5000 < s.size) (hsa : ∀ w, Calls Tryz.prog 9 #[.agg #[.bool a.g, .string a.s, .string a.t]] w fun e w' => e = .returned (.bool true) ∧ Below w.heap.size w w') : Calls Tryz.prog 6 #[.agg #[.bool a.g, .string a.s, .string a.t], .string (s)] w fun e w' => e = .returned (.bool true) ∧ Below w.heap.size w w' := by
  obtain ⟨b1, i1⟩ := bex ((s.size : Int) > 5000)
  letI : Env := mkEnv glT [.bool a.g, .string a.s, .string a.t, .string (s), .int .i64 (s.size : Int)] rfl
  have hops : OpsT Tryz.prog (@Know.ops (RatioTexts_lo_k b1)) := ⟨opt_lenS rfl rfl rfl,
    opt_gtr_i rfl rfl i1,
    trivial⟩
  have hcalls : CallsT Tryz.prog (@Know.calls (RatioTexts_lo_k b1)) := ⟨callt rfl rfl fun w hG => hsa w,
    callt rfl rfl fun w hG => lives4_c w hG,
    trivial⟩
  have fin : ∀ v, @comes (RatioTexts_lo_k b1) Tryz.prog glT 3000 RatioTexts_lo_f RatioTexts_lo_a = some v → ground v = true → Ending.returned (gval v) = .returned (.bool true) → Calls Tryz.prog 6 #[.agg #[.bool a.g, .string a.s, .string a.t], .string (s)] w fun e w' => e = .returned (.bool true) ∧ Below w.heap.size w w' := fun v h1 h2 h3 => (@sym_ok _ (RatioTexts_lo_k b1) _ (@KnowOk.of _ (RatioTexts_lo_k b1) _ hops hcalls) (by kernel_rfl) _ _ _ _ h1 rfl h2 _ hG).mono fun e w' h => ⟨h.1.trans h3, h.2⟩
  clear hops hcalls
  cases b1 with
  | true =>
    have h1 : (s.size : Int) > 5000 := i1.1 rfl
    exact fin _ (RatioTexts_lo_r1) rfl rfl
  | false =>
    exact absurd (i1.2 ((by omega))) Bool.false_ne_true
@[reducible] def RatioTexts_q_f : FuncId := 6
@[reducible] def RatioTexts_q_a : List AV := [.agg [.sym 0, .sym 1, .sym 2], .sym 3]
@[reducible] noncomputable def RatioTexts_q_k (b1 : Bool) : Know := ⟨[([6, 0, 3, 9], [.sym 3], .sym 6),
  ([0, 15, 3], [.sym 6, .lit (.int .i64 5000)], .lit (.bool b1)),
  ([0, 12, 9], [.sym 4, .sym 5], .lit (.bool false)),
  ([0, 11, 24], [.agg [.sym 7, .sym 8, .sym 9], .agg [.sym 11, .sym 12, .sym 13]], .lit (.bool true)),
  ([0, 11, 3], [.sym 10, .sym 14], .lit (.bool true)),
  ([0, 11, 24], [.agg [.sym 15, .sym 16, .sym 17], .agg [.sym 19, .sym 20, .sym 21]], .lit (.bool true)),
  ([0, 11, 3], [.sym 18, .sym 22], .lit (.bool true)),
  ([0, 11, 3], [.sym 24, .sym 26], .lit (.bool true))],
  [(9, [.agg [.sym 0, .sym 1, .sym 2]], .lit (.bool true)),
  (43, [.agg [.sym 0, .sym 1, .sym 2]], .tup [.sym 4, .lit (.int .i64 0)]),
  (19, [.agg [.sym 0, .sym 1, .sym 2]], .lit (.bool true)),
  (44, [.agg [.sym 0, .sym 1, .sym 2]], .sym 5),
  (45, [.sym 3], .tup [.agg [.sym 7, .sym 8, .sym 9], .sym 10]),
  (46, [.sym 3], .tup [.agg [.sym 11, .sym 12, .sym 13], .sym 14]),
  (47, [.sym 3], .tup [.agg [.sym 15, .sym 16, .sym 17], .sym 18]),
  (48, [.sym 3], .tup [.agg [.sym 19, .sym 20, .sym 21], .sym 22]),
  (49, [.sym 3], .tup [.sym 23, .sym 24]),
  (50, [.sym 3], .tup [.sym 25, .sym 26]),
  (38, [.sym 23, .sym 25], .lit (.bool true)),
  (11, [], .lit (.bool true))]⟩
theorem RatioTexts_q_r1 : @comes (RatioTexts_q_k false) Tryz.prog glT 3000 RatioTexts_q_f RatioTexts_q_a = some (.lit (.bool true)) := by kernel_rfl
set_option maxRecDepth 100000 in
set_option maxHeartbeats 4000000 in
theorem RatioTexts_q (x : Rat) (s : ByteArray) (w : World) (hG : Globs glT w) (hl : s.size ≤ 5000) (hx : qfits x) (hsx : ∀ w, Calls Tryz.prog 9 #[qv x] w fun e w' => e = .returned (.bool true) ∧ Below w.heap.size w w') (hmx : ∀ w, Calls Tryz.prog 19 #[qv x] w fun e w' => e = .returned (.bool true) ∧ Below w.heap.size w w') : Calls Tryz.prog 6 #[.agg #[.bool (qG x), .string (natS (qN x)), .string (natS (qD x))], .string (s)] w fun e w' => e = .returned (.bool true) ∧ Below w.heap.size w w' := by
  obtain ⟨b1, i1⟩ := bex ((s.size : Int) > 5000)
  letI : Env := mkEnv glT [.bool (qG x), .string (natS (qN x)), .string (natS (qD x)), .string (s), .string (txR (qG x) (qN x) (qD x)), .string (txR (qG x) (qN x) (qD x)), .int .i64 (s.size : Int), .bool (rdR s).g, .string (rdR s).s, .string (rdR s).t, .int .i64 (rdE s), .bool (rdR s).g, .string (rdR s).s, .string (rdR s).t, .int .i64 (rdE s), .bool (dcG s), .string (dcN s), .string (dcD s), .int .i64 (dcE s), .bool (dcG s), .string (dcN s), .string (dcD s), .int .i64 (dcE s), .float .f64 (nrF s), .int .i64 (dcE s), .float .f64 (nrF s), .int .i64 (dcE s)] rfl
  have hops : OpsT Tryz.prog (@Know.ops (RatioTexts_q_k b1)) := ⟨opt_lenS rfl rfl rfl,
    opt_gtr_i rfl rfl i1,
    optT_neq_s rfl rfl,
    optR_eql_i (a := rdR s) (b := rdR s) rfl rfl ⟨fun _ => rfl, fun _ => rfl⟩,
    opt_eql_t rfl rfl rfl,
    optR_eql_i (a := (⟨dcG s, dcN s, dcD s⟩ : Rx)) (b := (⟨dcG s, dcN s, dcD s⟩ : Rx)) rfl rfl ⟨fun _ => rfl, fun _ => rfl⟩,
    opt_eql_t rfl rfl rfl,
    opt_eql_t rfl rfl rfl,
    trivial⟩
  have hcalls : CallsT Tryz.prog (@Know.calls (RatioTexts_q_k b1)) := ⟨callt rfl rfl fun w hG => hsx w,
    callt rfl rfl fun w hG => PText_c x w hG hx,
    callt rfl rfl fun w hG => hmx w,
    callt rfl rfl fun w hG => rText4_c x w hG hx,
    callt rfl rfl fun w hG => PRead_c s w hG (by omega) (by omega),
    callt rfl rfl fun w hG => rRead4_c s w hG (by omega),
    callt rfl rfl fun w hG => PDecimal_c s w (by omega),
    callt rfl rfl fun w hG => rDecimal4_c s w (by omega),
    callt rfl rfl fun w hG => PNear_c s (by omega) w hG,
    callt rfl rfl fun w hG => rNear4_c s (by omega) w hG,
    callt rfl rfl fun w hG => like4_c (nrF s) (nrF_ok s) w,
    callt rfl rfl fun w hG => lives4_c w hG,
    trivial⟩
  have fin : ∀ v, @comes (RatioTexts_q_k b1) Tryz.prog glT 3000 RatioTexts_q_f RatioTexts_q_a = some v → ground v = true → Ending.returned (gval v) = .returned (.bool true) → Calls Tryz.prog 6 #[.agg #[.bool (qG x), .string (natS (qN x)), .string (natS (qD x))], .string (s)] w fun e w' => e = .returned (.bool true) ∧ Below w.heap.size w w' := fun v h1 h2 h3 => (@sym_ok _ (RatioTexts_q_k b1) _ (@KnowOk.of _ (RatioTexts_q_k b1) _ hops hcalls) (by kernel_rfl) _ _ _ _ h1 rfl h2 _ hG).mono fun e w' h => ⟨h.1.trans h3, h.2⟩
  clear hops hcalls
  cases b1 with
  | true =>
    exact absurd (i1.1 rfl) ((by omega))
  | false =>
    have h1 : ¬ ((s.size : Int) > 5000) := fun c => Bool.false_ne_true (i1.2 c)
    exact fin _ (RatioTexts_q_r1) rfl rfl
@[reducible] def RatioTexts_b_f : FuncId := 6
@[reducible] def RatioTexts_b_a : List AV := [.agg [.sym 0, .sym 1, .sym 2], .sym 3]
@[reducible] noncomputable def RatioTexts_b_k (b1 : Bool) : Know := ⟨[([6, 0, 3, 9], [.sym 3], .sym 5),
  ([0, 15, 3], [.sym 5, .lit (.int .i64 5000)], .lit (.bool b1)),
  ([0, 12, 9], [.sym 4, .lit (.string ⟨#[]⟩)], .lit (.bool false)),
  ([0, 11, 24], [.agg [.sym 6, .sym 7, .sym 8], .agg [.sym 10, .sym 11, .sym 12]], .lit (.bool true)),
  ([0, 11, 3], [.sym 9, .sym 13], .lit (.bool true)),
  ([0, 11, 24], [.agg [.sym 14, .sym 15, .sym 16], .agg [.sym 18, .sym 19, .sym 20]], .lit (.bool true)),
  ([0, 11, 3], [.sym 17, .sym 21], .lit (.bool true)),
  ([0, 11, 3], [.sym 23, .sym 25], .lit (.bool true))],
  [(9, [.agg [.sym 0, .sym 1, .sym 2]], .lit (.bool true)),
  (43, [.agg [.sym 0, .sym 1, .sym 2]], .tup [.sym 4, .lit (.int .i64 2)]),
  (19, [.agg [.sym 0, .sym 1, .sym 2]], .lit (.bool false)),
  (45, [.sym 3], .tup [.agg [.sym 6, .sym 7, .sym 8], .sym 9]),
  (46, [.sym 3], .tup [.agg [.sym 10, .sym 11, .sym 12], .sym 13]),
  (47, [.sym 3], .tup [.agg [.sym 14, .sym 15, .sym 16], .sym 17]),
  (48, [.sym 3], .tup [.agg [.sym 18, .sym 19, .sym 20], .sym 21]),
  (49, [.sym 3], .tup [.sym 22, .sym 23]),
  (50, [.sym 3], .tup [.sym 24, .sym 25]),
  (38, [.sym 22, .sym 24], .lit (.bool true)),
  (11, [], .lit (.bool true))]⟩
theorem RatioTexts_b_r1 : @comes (RatioTexts_b_k false) Tryz.prog glT 3000 RatioTexts_b_f RatioTexts_b_a = some (.lit (.bool true)) := by kernel_rfl
set_option maxRecDepth 100000 in
set_option maxHeartbeats 4000000 in
theorem RatioTexts_b (a : Rx) (s : ByteArray) (w : World) (hG : Globs glT w) (hl : s.size ≤ 5000) (hna : a.No) (hsa : ∀ w, Calls Tryz.prog 9 #[.agg #[.bool a.g, .string a.s, .string a.t]] w fun e w' => e = .returned (.bool true) ∧ Below w.heap.size w w') (hma : ∀ w, Calls Tryz.prog 19 #[.agg #[.bool a.g, .string a.s, .string a.t]] w fun e w' => e = .returned (.bool false) ∧ Below w.heap.size w w') : Calls Tryz.prog 6 #[.agg #[.bool a.g, .string a.s, .string a.t], .string (s)] w fun e w' => e = .returned (.bool true) ∧ Below w.heap.size w w' := by
  obtain ⟨b1, i1⟩ := bex ((s.size : Int) > 5000)
  have h2 : ByteArray.mk #[] = ⟨#[]⟩ := rfl
  have i2 : true = true ↔ (ByteArray.mk #[] = ⟨#[]⟩) := ⟨fun _ => h2, fun _ => rfl⟩
  letI : Env := mkEnv glT [.bool a.g, .string a.s, .string a.t, .string (s), .string (ByteArray.mk #[]), .int .i64 (s.size : Int), .bool (rdR s).g, .string (rdR s).s, .string (rdR s).t, .int .i64 (rdE s), .bool (rdR s).g, .string (rdR s).s, .string (rdR s).t, .int .i64 (rdE s), .bool (dcG s), .string (dcN s), .string (dcD s), .int .i64 (dcE s), .bool (dcG s), .string (dcN s), .string (dcD s), .int .i64 (dcE s), .float .f64 (nrF s), .int .i64 (dcE s), .float .f64 (nrF s), .int .i64 (dcE s)] rfl
  have hops : OpsT Tryz.prog (@Know.ops (RatioTexts_b_k b1)) := ⟨opt_lenS rfl rfl rfl,
    opt_gtr_i rfl rfl i1,
    optT_neq_i rfl rfl i2,
    optR_eql_i (a := rdR s) (b := rdR s) rfl rfl ⟨fun _ => rfl, fun _ => rfl⟩,
    opt_eql_t rfl rfl rfl,
    optR_eql_i (a := (⟨dcG s, dcN s, dcD s⟩ : Rx)) (b := (⟨dcG s, dcN s, dcD s⟩ : Rx)) rfl rfl ⟨fun _ => rfl, fun _ => rfl⟩,
    opt_eql_t rfl rfl rfl,
    opt_eql_t rfl rfl rfl,
    trivial⟩
  have hcalls : CallsT Tryz.prog (@Know.calls (RatioTexts_b_k b1)) := ⟨callt rfl rfl fun w hG => hsa w,
    callt rfl rfl fun w hG => PText_no a w hG hna,
    callt rfl rfl fun w hG => hma w,
    callt rfl rfl fun w hG => PRead_c s w hG (by omega) (by omega),
    callt rfl rfl fun w hG => rRead4_c s w hG (by omega),
    callt rfl rfl fun w hG => PDecimal_c s w (by omega),
    callt rfl rfl fun w hG => rDecimal4_c s w (by omega),
    callt rfl rfl fun w hG => PNear_c s (by omega) w hG,
    callt rfl rfl fun w hG => rNear4_c s (by omega) w hG,
    callt rfl rfl fun w hG => like4_c (nrF s) (nrF_ok s) w,
    callt rfl rfl fun w hG => lives4_c w hG,
    trivial⟩
  have fin : ∀ v, @comes (RatioTexts_b_k b1) Tryz.prog glT 3000 RatioTexts_b_f RatioTexts_b_a = some v → ground v = true → Ending.returned (gval v) = .returned (.bool true) → Calls Tryz.prog 6 #[.agg #[.bool a.g, .string a.s, .string a.t], .string (s)] w fun e w' => e = .returned (.bool true) ∧ Below w.heap.size w w' := fun v h1 h2 h3 => (@sym_ok _ (RatioTexts_b_k b1) _ (@KnowOk.of _ (RatioTexts_b_k b1) _ hops hcalls) (by kernel_rfl) _ _ _ _ h1 rfl h2 _ hG).mono fun e w' h => ⟨h.1.trans h3, h.2⟩
  clear hops hcalls
  cases b1 with
  | true =>
    exact absurd (i1.1 rfl) ((by omega))
  | false =>
    have h1 : ¬ ((s.size : Int) > 5000) := fun c => Bool.false_ne_true (i1.2 c)
    exact fin _ (RatioTexts_b_r1) rfl rfl
theorem RatioTexts_law (a : Rx) (s : ByteArray) (w : World) (hG : Globs glT w) (ha : a.s.size ≤ 9223372036854775807 ∧ a.t.size ≤ 9223372036854775807) (hs : s.size ≤ 9223372036854775807) : Calls Tryz.prog 6 #[.agg #[.bool a.g, .string a.s, .string a.t], .string s] w fun e w' => e = .returned (.bool true) ∧ Below w.heap.size w w' := by
  have sa := fun w => Psmall_c a w ha.1 ha.2
  cases h1 : smB a with
  | false => rw [h1] at sa; exact RatioTexts_na a s w hG sa
  | true =>
    rw [h1] at sa
    by_cases hl : 5000 < s.size
    · exact RatioTexts_lo a s w hG hl sa
    have hl' : s.size ≤ 5000 := by omega
    have z1 := smB_iff.1 h1
    have ma := fun w => rMay4_any a w ⟨Nat.le_trans z1.1 (by decide), Nat.le_trans z1.2 (by decide)⟩
    rcases a.cases_ with ⟨x, hx⟩ | hna
    · rw [mayR_iff.2 ⟨x, hx⟩] at ma
      have bx := hx.bytes z1
      obtain ⟨hf, rfl⟩ := hx
      exact RatioTexts_q x s w hG hl' hf sa ma
    · have e : mayR a = false := Bool.eq_false_iff.2 (fun c => by obtain ⟨q, hq⟩ := mayR_iff.1 c; exact hna q hq)
      rw [e] at ma
      exact RatioTexts_b a s w hG hl' hna sa ma
end Go.Proofs.YtajcapliokblfaaGreatDoor
namespace Go.Proofs.YtajcapliokblfaaGreatDoor
open Go Go.RowKit Go.WideShapes Go.ChangeShapes
variable {H : Type} {enc : TypeId × Value → H} {P : Program}
theorem postBelow {f : Func} {s : ChangeSpec} {apart fresh handsOn again : Bool} {W W' : World} {args : Array Value} {v : Value} {ds gs : List (DataW H)} {places pa pv : List MemPlace}
    (whole : DataW.Whole enc P f.params.toList s.vars apart W args.toList ds gs places)
    (res : ∀ (b : Nat) (sp : Nat → Bool) (hd : Bool), DataW.TrodAll enc P W' b sp hd f.resultTypes.toList (v.resultList f.resultTypes.size) (s.fn H (ds ++ gs)).results [])
    (left : ∀ sp : Nat → Bool, (∀ p ∈ places, sp p.block = true) → DataW.TrodAll enc P W' 0 sp true f.params.toList args.toList (s.fn H (ds ++ gs)).args pa)
    (vars : ∀ sp : Nat → Bool, (∀ p ∈ places, sp p.block = true) → DataW.TrodVars enc P W' sp s.vars (s.fn H (ds ++ gs)).vars pv)
    (split : places = pa ++ pv) (below : Below W.heap.size W W')
    (ok : ∀ (j : Nat) (t : TypeId) (r : Value), f.resultTypes[j]? = some t → (v.resultList f.resultTypes.size)[j]? = some r → Value.okWide P W' .any 0 t r) :
    s.post enc P f apart fresh handsOn again W args v W' := by
  have old : ∀ p ∈ places, p.block < W.heap.size := fun p hp => whole.lt p hp
  have same : ∀ p ∈ places, (fun b => decide (b < W.heap.size)) p.block = true := fun p hp => decide_eq_true (old p hp)
  have kept : W.keptBut W' (fun p => p ∈ places ∧ p ∈ pa ++ pv) :=
    World.keptBut_mono (fun p hp => ⟨hp, split ▸ hp⟩) (below.frame (· ∈ places))
  have free : ∀ b off, MemPlace.cell b off ∈ pa ++ pv → W'.frozen? ⟨b, off, none⟩ = false := fun b off hp => by
    have hin : MemPlace.cell b off ∈ places := split ▸ hp
    rw [below.frozen (p := ⟨b, off, none⟩) (old _ hin)]
    obtain ⟨_, _, _, _, _, hz, _⟩ := whole
    exact hz b off hin
  have apartNow : apart = true → (pa ++ pv).Nodup := fun ha => by
    obtain ⟨_, _, _, _, _, _, hn⟩ := whole
    exact split ▸ hn ha
  refine ⟨ds, gs, places, [], pa, pv, whole, res _ _ _, left _ same, vars _ same, ?_, fun _ => ⟨ok, _, _, ([] ++ pa) ++ pv, ⟨[] ++ pa, pv, trodAll_append (left _ (fun _ _ => rfl)) (res _ _ _), vars _ (fun _ _ => rfl), rfl, ?_, ?_⟩, ?_⟩⟩
  · exact World.keptBut_mono (fun p hp => ⟨hp.1, Or.inr (List.mem_append.1 hp.2)⟩) kept
  · intro b off hp; exact free b off (by simpa using hp)
  · intro ha; simpa using apartNow ha
  · intro p hp _; rw [split]; simpa using hp
end Go.Proofs.YtajcapliokblfaaGreatDoor
namespace Go.Proofs.YtajcapliokblfaaGreatDoor
open Go Go.ChangeShapes Go.WideShapes Go.ChangeAt Go.RowKit Go.Joins
variable {H : Type} {enc : TypeId × Value → H}
def ratD (H : Type) (r : Rx) : DataW H := .agg [.lit (.bool r.g), .lit (.string r.s.data.toList), .lit (.string r.t.data.toList)]
def Rx.max (r : Rx) : Prop := r.s.size ≤ maxLen ∧ r.t.size ≤ maxLen
theorem Rx.max.sz {r : Rx} (h : r.max) : r.s.size ≤ 9223372036854775807 ∧ r.t.size ≤ 9223372036854775807 := by
  have h1 := h.1; have h2 := h.2
  unfold maxLen at h1 h2
  exact ⟨by omega, by omega⟩
set_option maxRecDepth 100000 in
theorem open_rat {w : World} {base : Nat} {spare : Nat → Bool} {held : Bool} {r : Go.Reach} {b0 : Nat} {v : Value} {d : DataW H} {p : List MemPlace}
    (hv : Value.okWide Tryz.prog w r b0 24 v) (h : DataW.Trod enc Tryz.prog w base spare held 24 v d p) :
    ∃ a : Rx, v = .agg #[.bool a.g, .string a.s, .string a.t] ∧ d = ratD H a ∧ p = [] ∧ a.max := by
  obtain ⟨c0, c1, c2, y0, y1, y2, m, rfl, rfl, rfl, hy0, hy1, hy2⟩ := open_agg3 Tryz.underlying24 (by kernel_rfl) (by kernel_rfl) hv h
  obtain ⟨g, e0, rfl⟩ := DataW.trod_bool Tryz.underlying4 hy0
  obtain ⟨s, e1, rfl, hs⟩ := DataW.trod_string Tryz.underlying22 hy1
  obtain ⟨t, e2, rfl, ht⟩ := DataW.trod_string Tryz.underlying22 hy2
  simp at e0 e1 e2
  subst e0 e1 e2
  exact ⟨⟨g, s, t⟩, rfl, rfl, rfl, hs, ht⟩
set_option maxRecDepth 100000 in
theorem shut_rat {W' : World} {b : Nat} {sp : Nat → Bool} {hd : Bool} {a : Rx} (hm : a.max) :
    DataW.Trod enc Tryz.prog W' b sp hd 24 (.agg #[.bool a.g, .string a.s, .string a.t]) (ratD H a) [] := by
  simpa [ratD] using shut_agg3 (enc := enc) (w := W') (base := b) (spare := sp) (held := hd) (y0 := (.lit (.bool a.g), [])) (y1 := (.lit (.string a.s.data.toList), [])) (y2 := (.lit (.string a.t.data.toList), [])) Tryz.underlying24 (by kernel_rfl) (by kernel_rfl) ⟨1, by simp [DataW.trod, Tryz.underlying4]⟩ ⟨1, by simp [DataW.trod, Tryz.underlying22, hm.1]⟩ ⟨1, by simp [DataW.trod, Tryz.underlying22, hm.2]⟩
end Go.Proofs.YtajcapliokblfaaGreatDoor
