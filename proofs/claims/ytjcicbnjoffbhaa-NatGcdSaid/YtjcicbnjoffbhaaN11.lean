/- Contracts: math/bits.Div64; limb's Take. -/
import Derived.Test.YtjcicbnjoffbhaaN10
import Derived.Test.YtjcicbnjoffbhaaN9
import Derived.Deep.CutBlock
import Derived.Deep.DeepCutAuto
set_option linter.unusedSimpArgs false
set_option linter.unusedVariables false
namespace Go.Proofs.Ytjcicbnjoffbhaa
open Go Go.RowKit Nt

@[irreducible] def b32 (x : Nat) : Bool := decide (4294967296 ≤ x)
theorem b32_true {x : Nat} (h : 4294967296 ≤ x) : b32 x = true := by unfold b32; exact decide_eq_true_iff.2 h
theorem b32_false {x : Nat} (h : ¬ 4294967296 ≤ x) : b32 x = false := by unfold b32; exact decide_eq_false_iff_not.2 h
@[local go_sem] theorem ge_b32 (x : Nat) : decide ((4294967296 : Int) ≤ (x : Int)) = b32 x := by
  unfold b32; rw [Bool.eq_iff_iff, decide_eq_true_iff, decide_eq_true_iff]; omega
theorem wrap_nat (z : Int) : ∃ n : Nat, IntKind.u64.wrap z = (n : Int) := by
  refine ⟨(IntKind.u64.wrap z).toNat, ?_⟩
  rw [IntKind.wrap_u64]; omega
theorem wrap_r (u c Q Y : Nat) (h : Q * Y ≤ u * 4294967296 + c) (h2 : u * 4294967296 + c - Q * Y < 18446744073709551616) :
    IntKind.u64.wrap (IntKind.u64.wrap (IntKind.u64.wrap ((u : Int) * 4294967296) + (c : Int)) - IntKind.u64.wrap ((Q : Int) * (Y : Int))) = ((u * 4294967296 + c - Q * Y : Nat) : Int) := by
  rw [← Int.natCast_mul]
  simp only [IntKind.wrap_u64]
  generalize Q * Y = p at *
  omega
theorem Div64_small (lo y : Nat) (w : World) (h0 : 0 < y) (hy : y < 18446744073709551616) (hlo : lo < 18446744073709551616) :
    Calls Try.prog 106 #[.int .u64 0, .int .u64 (lo : Nat), .int .u64 (y : Nat)] w fun e w' => e = .returned (.tuple #[.int .u64 (lo / y : Nat), .int .u64 (lo % y : Nat)]) ∧ ∃ n, w' = w.drewN n := by
  have hz := eqz_false (x := y) (by omega)
  have hle : ¬ ((y : Int) ≤ 0) := by omega
  have hq := Nat.div_le_self lo y
  have hr := Nat.mod_le lo y
  have e1 : ((lo / y : Nat) : Int) = (lo : Int) / (y : Int) := Int.natCast_ediv _ _
  have e2 : ((lo % y : Nat) : Int) = (lo : Int) % (y : Int) := Int.natCast_emod _ _
  have HQ := Lib.hid e1
  have HR := Lib.hid e2
  clear e1 e2
  go_enter Try.func106, Try.ntmps106
  go_wp2
  go_quiet (fail)
  go_wp2
  rw [← HR.out, ← HQ.out, IntKind.wrap_u64, Int.emod_eq_of_lt (Int.natCast_nonneg _) (by omega)]
  go_ret2
  exact ⟨rfl, nq, rfl⟩
set_option maxHeartbeats 2000000 in
theorem Div64_big (hi lo y s Y yh yl u V c d q p r : Nat) (w : World) (h0 : hi ≠ 0) (hhy : hi < y) (hy : y < 18446744073709551616) (hlo : lo < 18446744073709551616)
    (hs : Go.Lib.bitLen y + s = 64) (hs64 : s < 64) (hY : IntKind.u64.wrap ((y : Int) * 2 ^ s) = (Y : Int)) (hyh : (Y : Int) / 4294967296 = (yh : Int)) (hyl : bits .and .u64 (Y : Int) 4294967295 = (yl : Int))
    (hyh0 : ¬ yh = 0) (hu : bits .or .u64 (IntKind.u64.wrap ((hi : Int) * 2 ^ s)) ((lo : Int) / 2 ^ (64 - s)) = (u : Int))
    (hV : IntKind.u64.wrap ((lo : Int) * 2 ^ s) = (V : Int)) (hc : (V : Int) / 4294967296 = (c : Int)) (hd : bits .and .u64 (V : Int) 4294967295 = (d : Int))
    (hq : IntKind.u64.wrap ((u : Int) / (yh : Int)) = (q : Int)) (hp : IntKind.u64.wrap ((q : Int) * (yh : Int)) = (p : Int)) (hr : IntKind.u64.wrap ((u : Int) - (p : Int)) = (r : Int))
    (HG15 : Hid (Gss u c yh yl q r)) (HU15 : Hid (u < yh * 4294967296 + yl)) (HCc : Hid (c < 4294967296)) (HCd : Hid (d < 4294967296)) (HYH : Hid (yh < 4294967296)) (HYL : Hid (yl < 4294967296)) (HYP : Hid (0 < yh)) (HYB : Hid (2147483648 ≤ yh)) (HYS : Hid (Y = yh * 4294967296 + yl)) (HYM : Hid (Y < 18446744073709551616)) (HVS : Hid (V = c * 4294967296 + d)) (HYY : Hid (Y = y * 2 ^ s)) (HX : Hid (u * 18446744073709551616 + V = (hi * 18446744073709551616 + lo) * 2 ^ s)) :
    Calls Try.prog 106 #[.int .u64 (hi : Nat), .int .u64 (lo : Nat), .int .u64 (y : Nat)] w fun e w' => e = .returned (.tuple #[.int .u64 ((hi * 18446744073709551616 + lo) / y : Nat), .int .u64 ((hi * 18446744073709551616 + lo) % y : Nat)]) ∧ ∃ n, w' = w.drewN n := by
  have hz := eqz_false (x := y) (by omega)
  have hz2 := eqz_false (x := hi) (by omega)
  have hle : ¬ (y ≤ hi) := by omega
  have hlz : ∀ w, Calls Try.prog 98 #[.int .u64 (y : Nat)] w fun e w' => e = .returned (.int .i64 (s : Nat)) ∧ w = w' := fun w => by
    refine (Try.bits_LeadingZeros64 _ _ (by omega) (by omega)).mono ?_
    rintro e w' ⟨rfl, rfl⟩
    refine ⟨ret_int ?_, rfl⟩
    rw [Int.toNat_natCast]; omega
  have HLZ := Lib.hid hlz
  clear hlz
  have hs1 : IntKind.u64.wrap (s : Int) = (s : Int) := by rw [IntKind.wrap_u64]; omega
  have hs2 : IntKind.u64.wrap (64 - (s : Int)) = ((64 - s : Nat) : Int) := by rw [IntKind.wrap_u64]; omega
  go_enter Try.func106, Try.ntmps106
  go_upto_block 0 with (first | (go_at_call 98; refine (HLZ.out _).mono ?_; rintro e w' ⟨rfl, rfl⟩))
  go_cut [15, 16] (fun x _ wx => x = .int .u64 (((u * 4294967296 + c) / (yh * 4294967296 + yl) : Nat) : Int) ∧ wx = w)
  case first =>
    go_wp2_with fail
    go_loop [15, 16] (fun x z => ∃ q r : Nat, x = .int .u64 q ∧ z = .int .u64 r ∧ Hid (Gss u c yh yl q r)) (fun x _ => (intOf x).toNat)
    case atStart => exact ⟨_, _, rfl, rfl, HG15⟩
    case round =>
      obtain ⟨q, r, rfl, rfl, hg⟩ := hrel
      have hr : r < 4294967296 := hg.out.2.2.2
      obtain ⟨o, ho⟩ : ∃ o, o = 4294967296 * r := ⟨_, rfl⟩
      have ho1 : IntKind.u64.wrap (4294967296 * (r : Int)) = (o : Int) := by rw [IntKind.wrap_u64]; omega
      obtain ⟨t, ht⟩ : ∃ t, t = o + c := ⟨_, rfl⟩
      have ht1 : IntKind.u64.wrap ((o : Int) + (c : Int)) = (t : Int) := by rw [IntKind.wrap_u64]; have := HCc.out; omega
      obtain ⟨r', hr'⟩ : ∃ r', r' = r + yh := ⟨_, rfl⟩
      have hr1 : IntKind.u64.wrap ((r : Int) + (yh : Int)) = (r' : Int) := by rw [IntKind.wrap_u64]; have := HYH.out; omega
      have HO := Lib.hid ho
      have HT := Lib.hid ht
      have HR' := Lib.hid hr'
      have HRR := Lib.hid hr
      clear ho ht hr' hr
      by_cases hbig : 4294967296 ≤ q
      · have hbI := b32_true hbig
        have hn := gss_next hg.out HU15.out HCc.out HYH.out (Or.inl hbig)
        obtain ⟨q', hq'⟩ : ∃ q', q' = q - 1 := ⟨_, rfl⟩
        have hq1 : IntKind.u64.wrap ((q : Int) - 1) = (q' : Int) := by rw [IntKind.wrap_u64]; have := hn.2.2.2; omega
        rw [← hq'] at hn
        have hlt : q' < q := by omega
        have HQ' := Lib.hid hq'
        have HN := Lib.hid hn
        have HBIG := Lib.hid hbig
        clear hq' hn hbig
        by_cases hrb : 4294967296 ≤ r'
        · have hrB := b32_true hrb
          have HRB := Lib.hid hrb
          clear hrb
          go_wp2
          go_meet
          exact ⟨by rw [gss_end (q := q') (r := r') (u := u) (c := c) (by rw [HR'.out]; exact HN.out.2.1) HN.out.2.2.1 HYP.out (gss_far HN.out.2.2.2 HYL.out HRB.out)], rfl⟩
        · have hrB := b32_false hrb
          have HRB := Lib.hid hrb
          clear hrb
          go_wp2
          go_round
          case rel => exact ⟨q', r', rfl, rfl, Lib.hid ⟨by rw [HR'.out]; exact HN.out.2.1, HN.out.2.2.1, by have := HN.out.2.2.2; omega, by have := HRB.out; omega⟩⟩
          case measure => simp [intOf]; omega
      · have hbI := b32_false hbig
        have HQS := Lib.hid (show q < 4294967296 by omega)
        clear hbig
        obtain ⟨p, hp⟩ : ∃ p, p = q * yl := ⟨_, rfl⟩
        have hp1 : IntKind.u64.wrap ((q : Int) * (yl : Int)) = (p : Int) := by
          rw [← Int.natCast_mul, ← hp, IntKind.wrap_u64]
          have h1 : q * yl ≤ 4294967295 * 4294967295 := Nat.mul_le_mul (by have := HQS.out; omega) (by have := HYL.out; omega)
          omega
        have HP := Lib.hid hp
        clear hp
        by_cases hpt : t < p
        · have hn := gss_next hg.out HU15.out HCc.out HYH.out (Or.inr (by have := HO.out; have := HT.out; have := HP.out; omega))
          obtain ⟨q', hq'⟩ : ∃ q', q' = q - 1 := ⟨_, rfl⟩
          have hq1 : IntKind.u64.wrap ((q : Int) - 1) = (q' : Int) := by rw [IntKind.wrap_u64]; have := hn.1; omega
          rw [← hq'] at hn
          have hlt : q' < q := by have := hn.1; omega
          have HQ' := Lib.hid hq'
          have HN := Lib.hid hn
          clear hq' hn
          by_cases hrb : 4294967296 ≤ r'
          · have hrB := b32_true hrb
            have HRB := Lib.hid hrb
            clear hrb
            go_wp2
            go_meet
            exact ⟨by rw [gss_end (q := q') (r := r') (u := u) (c := c) (by rw [HR'.out]; exact HN.out.2.1) HN.out.2.2.1 HYP.out (gss_far HN.out.2.2.2 HYL.out HRB.out)], rfl⟩
          · have hrB := b32_false hrb
            have HRB := Lib.hid hrb
            clear hrb
            go_wp2
            go_round
            case rel => exact ⟨q', r', rfl, rfl, Lib.hid ⟨by rw [HR'.out]; exact HN.out.2.1, HN.out.2.2.1, by have := HN.out.2.2.2; omega, by have := HRB.out; omega⟩⟩
            case measure => simp [intOf]; omega
        · go_wp2
          go_meet
          exact ⟨by rw [gss_end (q := q) (r := r) (u := u) (c := c) hg.out.1 hg.out.2.1 HYP.out (by have := HO.out; have := HT.out; have := HP.out; omega)], rfl⟩
  case rest =>
    obtain ⟨rfl, rfl⟩ := hcut
    obtain ⟨Q, hQ⟩ : ∃ Q, Q = (u * 4294967296 + c) / (yh * 4294967296 + yl) := ⟨_, rfl⟩
    rw [← hQ]
    have hYS := HYS.out
    have hQY : Q * Y ≤ u * 4294967296 + c := by rw [hQ, hYS]; exact Nat.div_mul_le_self _ _
    have hRY : u * 4294967296 + c - Q * Y < Y := by
      have h1 := Nat.div_add_mod (u * 4294967296 + c) Y
      have h2 := Nat.mod_lt (u * 4294967296 + c) (show 0 < Y by have := HYP.out; omega)
      rw [← hYS] at hQ
      rw [← hQ, Nat.mul_comm] at h1; omega
    obtain ⟨R, hR⟩ : ∃ R, R = u * 4294967296 + c - Q * Y := ⟨_, rfl⟩
    obtain ⟨a1, ha1⟩ := wrap_nat ((u : Int) * 4294967296)
    obtain ⟨a2, ha2⟩ := wrap_nat ((a1 : Int) + (c : Int))
    obtain ⟨a3, ha3⟩ := wrap_nat ((Q : Int) * (Y : Int))
    have ha4 : IntKind.u64.wrap ((a2 : Int) - (a3 : Int)) = (R : Int) := by
      rw [hR, ← ha2, ← ha3, ← ha1]; exact wrap_r u c Q Y hQY (by have := HYM.out; omega)
    obtain ⟨q2, hq2⟩ := wrap_nat ((R : Int) / (yh : Int))
    obtain ⟨p2, hp2⟩ := wrap_nat ((q2 : Int) * (yh : Int))
    obtain ⟨r2, hr2⟩ := wrap_nat ((R : Int) - (p2 : Int))
    have HU18 := Lib.hid (show R < yh * 4294967296 + yl by rw [hR, ← hYS]; exact hRY)
    have HG18 : Hid (Gss R d yh yl q2 r2) := by
      have h := gss_start HU18.out HCd.out HYL.out HYB.out HYH.out
      have e1 : q2 = R / yh := by
        have h1 := Nat.div_le_self R yh
        rw [IntKind.wrap_u64, ← Int.natCast_ediv] at hq2
        generalize R / yh = z at *
        have := HYM.out; omega
      have e2 : p2 = R / yh * yh := by
        have h1 := Nat.div_mul_le_self R yh
        rw [IntKind.wrap_u64, ← Int.natCast_mul, e1] at hp2
        generalize R / yh * yh = z at *
        have := HYM.out; omega
      have e3 : r2 = R - R / yh * yh := by
        have h1 := Nat.div_mul_le_self R yh
        rw [IntKind.wrap_u64, e2] at hr2
        generalize R / yh * yh = z at *
        have := HYM.out; omega
      rw [e1, e3]; exact Lib.hid h
    obtain ⟨Q2, hQ2⟩ : ∃ Q2, Q2 = (R * 4294967296 + d) / (yh * 4294967296 + yl) := ⟨_, rfl⟩
    have hQY2 : Q2 * Y ≤ R * 4294967296 + d := by rw [hQ2, hYS]; exact Nat.div_mul_le_self _ _
    have hQ2Y : Q2 = (R * 4294967296 + d) / Y := by rw [hQ2, hYS]
    have hmodR : R * 4294967296 + d - Q2 * Y = (R * 4294967296 + d) % Y := by
      have h1 := Nat.div_add_mod (R * 4294967296 + d) Y
      rw [← hQ2Y, Nat.mul_comm] at h1; omega
    obtain ⟨b1, hb1⟩ := wrap_nat ((Q : Int) * 4294967296)
    obtain ⟨b2, hb2⟩ := wrap_nat ((b1 : Int) + (Q2 : Int))
    obtain ⟨b3, hb3⟩ := wrap_nat ((R : Int) * 4294967296)
    obtain ⟨b4, hb4⟩ := wrap_nat ((b3 : Int) + (d : Int))
    obtain ⟨b5, hb5⟩ := wrap_nat ((Q2 : Int) * (Y : Int))
    have hY0 : 0 < Y := by have := HYP.out; omega
    have hR2Y : (R * 4294967296 + d) % Y < Y := Nat.mod_lt _ hY0
    obtain ⟨b6, hb6⟩ : ∃ b6, b6 = (R * 4294967296 + d) % Y := ⟨_, rfl⟩
    have hb6' : IntKind.u64.wrap ((b4 : Int) - (b5 : Int)) = (b6 : Int) := by
      rw [hb6, ← hmodR, ← hb4, ← hb5, ← hb3]; exact wrap_r R d Q2 Y hQY2 (by rw [hmodR]; exact Nat.lt_trans hR2Y HYM.out)
    obtain ⟨b7, hb7⟩ : ∃ b7, b7 = b6 / 2 ^ s := ⟨_, rfl⟩
    have hb7' : (b6 : Int) / 2 ^ s = (b7 : Int) := by rw [hb7, Int.natCast_ediv, Int.natCast_pow]; rfl
    have hFin : b2 = (hi * 18446744073709551616 + lo) / y ∧ b7 = (hi * 18446744073709551616 + lo) % y := by
      have h2 := two_steps u c d Y hY0 HCd.out
      have hRm : (u * 4294967296 + c) % Y = R := by
        have h1 := Nat.div_add_mod (u * 4294967296 + c) Y
        rw [← hYS] at hQ
        rw [← hQ, Nat.mul_comm] at h1; omega
      have hQY' : (u * 4294967296 + c) / Y = Q := by rw [hYS]; exact hQ.symm
      rw [hRm, hQY', ← hQ2Y, ← HVS.out, HX.out, HYY.out] at h2
      have h3 := scale_div (hi * 18446744073709551616 + lo) y (2 ^ s) (Nat.two_pow_pos s)
      rw [h3.1] at h2
      have hlt : (hi * 18446744073709551616 + lo) / y < 18446744073709551616 := by
        rw [Nat.div_lt_iff_lt_mul (by omega)]; omega
      constructor
      · rw [IntKind.wrap_u64] at hb1 hb2
        have := h2.1
        omega
      · rw [hb7, hb6, HYY.out, ← h3.2, ← h2.2]
    have HFIN := Lib.hid hFin
    have HQ2 := Lib.hid hQ2
    clear hQ hQY hRY hR hYS hQ2 hQY2 hQ2Y hmodR hY0 hR2Y hb6 hb7 hFin
    go_upto_block 2 with fail
    go_cut [18, 16] (fun x _ wx => x = .int .u64 (((R * 4294967296 + d) / (yh * 4294967296 + yl) : Nat) : Int) ∧ wx = wc)
    case first =>
      go_wp2_with fail
      go_loop [18, 16] (fun x z => ∃ q r : Nat, x = .int .u64 q ∧ z = .int .u64 r ∧ Hid (Gss R d yh yl q r)) (fun x _ => (intOf x).toNat)
      case atStart => exact ⟨_, _, rfl, rfl, HG18⟩
      case round =>
        obtain ⟨q, r, rfl, rfl, hg⟩ := hrel
        have hr : r < 4294967296 := hg.out.2.2.2
        obtain ⟨o, ho⟩ : ∃ o, o = 4294967296 * r := ⟨_, rfl⟩
        have ho1 : IntKind.u64.wrap (4294967296 * (r : Int)) = (o : Int) := by rw [IntKind.wrap_u64]; omega
        obtain ⟨t, ht⟩ : ∃ t, t = o + d := ⟨_, rfl⟩
        have ht1 : IntKind.u64.wrap ((o : Int) + (d : Int)) = (t : Int) := by rw [IntKind.wrap_u64]; have := HCd.out; omega
        obtain ⟨r', hr'⟩ : ∃ r', r' = r + yh := ⟨_, rfl⟩
        have hr1 : IntKind.u64.wrap ((r : Int) + (yh : Int)) = (r' : Int) := by rw [IntKind.wrap_u64]; have := HYH.out; omega
        have HO := Lib.hid ho
        have HT := Lib.hid ht
        have HR' := Lib.hid hr'
        have HRR := Lib.hid hr
        clear ho ht hr' hr
        by_cases hbig : 4294967296 ≤ q
        · have hbI := b32_true hbig
          have hn := gss_next hg.out HU18.out HCd.out HYH.out (Or.inl hbig)
          obtain ⟨q', hq'⟩ : ∃ q', q' = q - 1 := ⟨_, rfl⟩
          have hq1 : IntKind.u64.wrap ((q : Int) - 1) = (q' : Int) := by rw [IntKind.wrap_u64]; have := hn.2.2.2; omega
          rw [← hq'] at hn
          have hlt : q' < q := by omega
          have HQ' := Lib.hid hq'
          have HN := Lib.hid hn
          have HBIG := Lib.hid hbig
          clear hq' hn hbig
          by_cases hrb : 4294967296 ≤ r'
          · have hrB := b32_true hrb
            have HRB := Lib.hid hrb
            clear hrb
            go_wp2
            go_meet
            exact ⟨by rw [gss_end (q := q') (r := r') (u := R) (c := d) (by rw [HR'.out]; exact HN.out.2.1) HN.out.2.2.1 HYP.out (gss_far HN.out.2.2.2 HYL.out HRB.out)], rfl⟩
          · have hrB := b32_false hrb
            have HRB := Lib.hid hrb
            clear hrb
            go_wp2
            go_round
            case rel => exact ⟨q', r', rfl, rfl, Lib.hid ⟨by rw [HR'.out]; exact HN.out.2.1, HN.out.2.2.1, by have := HN.out.2.2.2; omega, by have := HRB.out; omega⟩⟩
            case measure => simp [intOf]; omega
        · have hbI := b32_false hbig
          have HQS := Lib.hid (show q < 4294967296 by omega)
          clear hbig
          obtain ⟨p, hp⟩ : ∃ p, p = q * yl := ⟨_, rfl⟩
          have hp1 : IntKind.u64.wrap ((q : Int) * (yl : Int)) = (p : Int) := by
            rw [← Int.natCast_mul, ← hp, IntKind.wrap_u64]
            have h1 : q * yl ≤ 4294967295 * 4294967295 := Nat.mul_le_mul (by have := HQS.out; omega) (by have := HYL.out; omega)
            omega
          have HP := Lib.hid hp
          clear hp
          by_cases hpt : t < p
          · have hn := gss_next hg.out HU18.out HCd.out HYH.out (Or.inr (by have := HO.out; have := HT.out; have := HP.out; omega))
            obtain ⟨q', hq'⟩ : ∃ q', q' = q - 1 := ⟨_, rfl⟩
            have hq1 : IntKind.u64.wrap ((q : Int) - 1) = (q' : Int) := by rw [IntKind.wrap_u64]; have := hn.1; omega
            rw [← hq'] at hn
            have hlt : q' < q := by have := hn.1; omega
            have HQ' := Lib.hid hq'
            have HN := Lib.hid hn
            clear hq' hn
            by_cases hrb : 4294967296 ≤ r'
            · have hrB := b32_true hrb
              have HRB := Lib.hid hrb
              clear hrb
              go_wp2
              go_meet
              exact ⟨by rw [gss_end (q := q') (r := r') (u := R) (c := d) (by rw [HR'.out]; exact HN.out.2.1) HN.out.2.2.1 HYP.out (gss_far HN.out.2.2.2 HYL.out HRB.out)], rfl⟩
            · have hrB := b32_false hrb
              have HRB := Lib.hid hrb
              clear hrb
              go_wp2
              go_round
              case rel => exact ⟨q', r', rfl, rfl, Lib.hid ⟨by rw [HR'.out]; exact HN.out.2.1, HN.out.2.2.1, by have := HN.out.2.2.2; omega, by have := HRB.out; omega⟩⟩
              case measure => simp [intOf]; omega
          · go_wp2
            go_meet
            exact ⟨by rw [gss_end (q := q) (r := r) (u := R) (c := d) hg.out.1 hg.out.2.1 HYP.out (by have := HO.out; have := HT.out; have := HP.out; omega)], rfl⟩
    case rest =>
      obtain ⟨rfl, rfl⟩ := hcut
      rw [← HQ2.out]
      go_wp2
      go_ret2
      obtain ⟨e1, e2⟩ := HFIN.out
      exact ⟨by rw [e1, e2]; rfl, 0, rfl⟩
theorem Div64_c (hi lo y : Nat) (w : World) (hhy : hi < y) (hy : y < 18446744073709551616) (hlo : lo < 18446744073709551616) :
    Calls Try.prog 106 #[.int .u64 (hi : Nat), .int .u64 (lo : Nat), .int .u64 (y : Nat)] w fun e w' => e = .returned (.tuple #[.int .u64 ((hi * 18446744073709551616 + lo) / y : Nat), .int .u64 ((hi * 18446744073709551616 + lo) % y : Nat)]) ∧ ∃ n, w' = w.drewN n := by
  by_cases h0 : hi = 0
  · subst h0
    have h := Div64_small lo y w (by omega) hy hlo
    rw [Nat.zero_mul, Nat.zero_add]
    exact h
  · have hbl := bitLen_nd hy
    have hn := nd_le (b := 2) (n := y) (k := 64) (by omega) hy
    obtain ⟨s, hs⟩ : ∃ s, s = 64 - nd 2 y := ⟨_, rfl⟩
    have hy0 : y ≠ 0 := by omega
    have hnd0 : nd 2 y ≠ 0 := fun c => hy0 ((nd_eq_zero (by omega)).1 c)
    have h1 := lt_nd (b := 2) (n := y) (by omega)
    have h2 := (pow_le_iff (b := 2) (by omega) (nd 2 y - 1) y).2 (by omega)
    obtain ⟨Y, hY⟩ : ∃ Y, Y = y * 2 ^ s := ⟨_, rfl⟩
    have e64 : (2 : Nat) ^ nd 2 y * 2 ^ s = 18446744073709551616 := by rw [← Nat.pow_add, show nd 2 y + s = 64 by omega]
    have e63 : (2 : Nat) ^ (nd 2 y - 1) * 2 ^ s = 9223372036854775808 := by rw [← Nat.pow_add, show nd 2 y - 1 + s = 63 by omega]
    have hYM : Y < 18446744073709551616 := by rw [hY, ← e64]; exact (Nat.mul_lt_mul_right (Nat.two_pow_pos s)).2 h1
    have hYB : 9223372036854775808 ≤ Y := by rw [hY, ← e63]; exact Nat.mul_le_mul_right _ h2
    have hhi : hi * 2 ^ s < 18446744073709551616 := by
      refine Nat.lt_trans ?_ hYM; rw [hY]; exact (Nat.mul_lt_mul_right (Nat.two_pow_pos s)).2 hhy
    obtain ⟨p1, p2, p3⟩ := shl_two hi lo s (by omega) hlo hhi
    obtain ⟨u, hu⟩ : ∃ u, u = hi * 2 ^ s + lo / 2 ^ (64 - s) := ⟨_, rfl⟩
    obtain ⟨V, hV⟩ : ∃ V, V = lo * 2 ^ s % 18446744073709551616 := ⟨_, rfl⟩
    rw [← hu, ← hV] at p3
    rw [← hu] at p1 p2
    have hVM : V < 18446744073709551616 := by rw [hV]; exact Nat.mod_lt _ (by omega)
    have huY : u < Y := by
      have h3 : (hi * 18446744073709551616 + lo) * 2 ^ s < Y * 18446744073709551616 := by
        rw [hY, Nat.mul_right_comm]; exact (Nat.mul_lt_mul_right (Nat.two_pow_pos s)).2 (by omega)
      omega
    obtain ⟨yh, hyh⟩ : ∃ yh, yh = Y / 4294967296 := ⟨_, rfl⟩
    obtain ⟨yl, hyl⟩ : ∃ yl, yl = Y % 4294967296 := ⟨_, rfl⟩
    obtain ⟨c, hc⟩ : ∃ c, c = V / 4294967296 := ⟨_, rfl⟩
    obtain ⟨d, hd⟩ : ∃ d, d = V % 4294967296 := ⟨_, rfl⟩
    have hg := gss_start (u := u) (c := c) (yh := yh) (yl := yl) (by omega) (by omega) (by omega) (by omega) (by omega)
    have hqh : u / yh ≤ u := Nat.div_le_self _ _
    have hqp : u / yh * yh ≤ u := Nat.div_mul_le_self _ _
    have mask : ∀ x : Nat, x < 18446744073709551616 → bits .and .u64 (x : Int) 4294967295 = ((x % 4294967296 : Nat) : Int) := fun x hx => by
      have h := bits_and_u64_nat x 4294967295 hx (by omega)
      have e : x &&& 4294967295 = x % 4294967296 := Nat.and_two_pow_sub_one_eq_mod x 32
      rw [e] at h; exact h
    have pw : ∀ k : Nat, (2 : Int) ^ k = ((2 ^ k : Nat) : Int) := fun k => by rw [Int.natCast_pow]; rfl
    refine Div64_big hi lo y s Y yh yl u V c d (u / yh) (u / yh * yh) (u - u / yh * yh) w h0 hhy hy hlo (by omega) (by omega) ?_ (by omega) (by rw [mask Y hYM, hyl]) (by omega) ?_ ?_ (by omega) (by rw [mask V hVM, hd]) ?_ ?_ ?_
      (Lib.hid hg) (Lib.hid (by omega)) (Lib.hid (by omega)) (Lib.hid (by omega)) (Lib.hid (by omega)) (Lib.hid (by omega)) (Lib.hid (by omega)) (Lib.hid (by omega)) (Lib.hid (by omega)) (Lib.hid hYM) (Lib.hid (by omega)) (Lib.hid hY) (Lib.hid p3)
    · rw [pw, ← Int.natCast_mul, ← hY, IntKind.wrap_u64]; omega
    · rw [pw, pw, ← Int.natCast_mul, ← Int.natCast_ediv, IntKind.wrap_u64, Int.emod_eq_of_lt (by omega) (by omega), bits_or_u64_nat _ _ hhi (Nat.lt_of_le_of_lt (Nat.div_le_self _ _) hlo), p1]
    · rw [pw, ← Int.natCast_mul, IntKind.wrap_u64, hV]; omega
    · rw [← Int.natCast_ediv, IntKind.wrap_u64]; generalize u / yh = z at *; omega
    · rw [← Int.natCast_mul, IntKind.wrap_u64]; generalize u / yh * yh = z at *; omega
    · rw [IntKind.wrap_u64]; generalize u / yh * yh = z at *; omega
end Go.Proofs.Ytjcicbnjoffbhaa
