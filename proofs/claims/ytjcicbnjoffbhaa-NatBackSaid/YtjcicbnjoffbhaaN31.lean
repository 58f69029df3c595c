/- The law NatBack. -/
import Derived.Test.YtjcicbnjoffbhaaN30
set_option linter.unusedSimpArgs false
set_option linter.unusedVariables false
namespace Go.Proofs.Ytjcicbnjoffbhaa
open Go Go.RowKit Nt

theorem Small_of (m : Nat) (hm : m < 18446744073709551616) (w : World) : Calls Try.prog 19 #[.string (natS m)] w fun e w' => e = .returned (.tuple #[.int .u64 (m : Nat), .bool true]) ∧ Below w.heap.size w w' := by
  have h8 := br_lt.2 hm
  have h := Small_c m w (by unfold fits; omega)
  rwa [brN_yes h8, brB_yes h8] at h
theorem fits_u64 {m : Nat} (hm : m < 18446744073709551616) : fits m := by have := br_lt.2 hm; unfold fits; omega
theorem Small_nil (w : World) : Calls Try.prog 19 #[.string ⟨#[]⟩] w fun e w' => e = .returned (.tuple #[.int .u64 0, .bool true]) ∧ Below w.heap.size w w' := by
  have h := Small_of 0 (by omega) w
  rw [natS_zero] at h; exact h
set_option maxRecDepth 1000000 in
set_option maxHeartbeats 8000000 in
theorem NatBack_law (s t : ByteArray) (m n : Nat) (hs : s.size ≤ maxLen) (ht : t.size ≤ maxLen) (hm : m < 18446744073709551616) (hn : n < 18446744073709551616) (w : World) :
    Calls Try.prog 17 #[.string s, .string t, .int .u64 (m : Nat), .int .u64 (n : Nat)] w fun e w' => e = .returned (.bool true) ∧ Below w.heap.size w w' := by
  unfold maxLen at hs ht
  have HSM := fun w => Small_of m hm w
  have HCM := fun w => NCmp_c m n w (fits_u64 hm) (fits_u64 hn)
  have HOM := fun w => Of_n m w hm
  have HON := fun w => Of_n n w hn
  have KSM := Lib.hid HSM
  have KCM := Lib.hid HCM
  have KOM := Lib.hid HOM
  have KON := Lib.hid HON
  have HM := Lib.hid hm
  have HN := Lib.hid hn
  have HT := Lib.hid ht
  clear HSM HCM HOM HON hm hn
  have hA : (¬ May s) ∨ (∃ a, fits a ∧ s = natS a ∧ nd 256 a < 4000) ∨ (∃ a, fits a ∧ s = natS a ∧ ¬ nd 256 a < 4000) := by
    by_cases h : May s
    · obtain ⟨a, ha, rfl⟩ := may_num h
      by_cases h2 : nd 256 a < 4000
      · exact Or.inr (Or.inl ⟨a, ha, rfl, h2⟩)
      · exact Or.inr (Or.inr ⟨a, ha, rfl, h2⟩)
    · exact Or.inl h
  rcases hA with h | ⟨a, ha, rfl, h2⟩ | ⟨a, ha, rfl, h2⟩
  case' inl =>
    have K := Lib.hid h
    clear h
    go_enter Try.func17, Try.ntmps17
    go_upto_if 49 with (go_at_call 53; refine (NText_no s _ K.out).mono ?_; rintro e w1 ⟨rfl, hb1⟩)
    have hbA := hb1
    obtain ⟨wa, rfl⟩ : ∃ wa : World, wa = w1 := ⟨_, rfl⟩
  case' inr.inl =>
    have hsz := natS_size a
    have hv := pre_of_dec a
    have hrd := fun w => NRead_c (decS a) w (by rw [decS_size]; unfold dlen; split; omega; (have h1 : nd 2 a ≤ 8 * 16384 := (bits_le a 16384).2 ha; have h3 : a < 10 ^ nd 2 a := Nat.lt_of_lt_of_le (lt_nd (b := 2) (by omega)) (Nat.pow_le_pow_left (by omega) _); have := nd_le (b := 10) (by omega) h3; omega)) hv.1
    rw [hv.2, resS_ok ha, resE_ok ha] at hrd
    have KRD := Lib.hid hrd
    have h2I : (nd 256 a : Int) < 4000 := by omega
    clear hv hrd hs
    go_enter Try.func17, Try.ntmps17
    go_upto_if 49 with (first | (go_at_call 53; refine (NText_any a _ ha).mono ?_; rintro e w1 ⟨rfl, hb1⟩) | (go_at_call 55; refine (KRD.out _).mono ?_; rintro e w2 ⟨rfl, hb2⟩))
    have hbA := below_chain hb1 hb2
    obtain ⟨wa, rfl⟩ : ∃ wa : World, wa = w2 := ⟨_, rfl⟩
    clear h2 h2I hb1 hb2 hsz KRD ha
  case' inr.inr =>
    have hsz := natS_size a
    have h2I : ¬ (nd 256 a : Int) < 4000 := by omega
    clear hs
    go_enter Try.func17, Try.ntmps17
    go_upto_if 49 with (first | (go_at_call 53; refine (NText_any a _ ha).mono ?_; rintro e w1 ⟨rfl, hb1⟩))
    have hbA := hb1
    obtain ⟨wa, rfl⟩ : ∃ wa : World, wa = w1 := ⟨_, rfl⟩
    clear h2 h2I hsz ha
  all_goals
    have HBA := Lib.hid hbA
    clear hbA
    go_cut [] (fun wc => Below w.heap.size w wc)
    case first =>
      by_cases hl : t.size < 10000
      · have hlI : (t.size : Int) < 10000 := by omega
        by_cases hv : Valid t
        · have hV := Lib.hid hv
          have hval := dig_pre hv.2.1 t.size (Nat.le_refl _)
          have hfit : fits (preV t t.size) := by
            have h1 := nd_le (b := 256) (by omega) (Nat.lt_of_lt_of_le hval (Nat.pow_le_pow_left (by omega : 10 ≤ 256) _))
            unfold fits; omega
          have hdec := dec_of_pre hv
          have hrd := fun w => NRead_c t w ht hv
          rw [resS_ok hfit, resE_ok hfit] at hrd
          have htx := fun w => NText_any (preV t t.size) w hfit
          rw [hdec] at htx
          have KRD := Lib.hid hrd
          have KTX := Lib.hid htx
          clear hv hval hfit hdec hrd htx
          go_wp2_with fail
          refine (KRD.out _).mono ?_
          rintro e w3 ⟨rfl, hb3⟩
          go_wp2_with fail
          refine (KTX.out _).mono ?_
          rintro e w4 ⟨rfl, hb4⟩
          go_wp2_with fail
          go_meet
          exact below_chain HBA.out (below_chain hb3 hb4)
        · have hrd := fun w => NRead_no t w ht hv
          have KRD := Lib.hid hrd
          clear hv hrd
          go_wp2_with fail
          refine (KRD.out _).mono ?_
          rintro e w3 ⟨rfl, hb3⟩
          go_wp2_with fail
          go_meet
          exact below_chain HBA.out hb3
      · have hlI : ¬ (t.size : Int) < 10000 := by omega
        go_wp2_with fail
        go_meet
        exact HBA.out
    case rest =>
      have hbB := hcut
      rcases Nat.lt_trichotomy m n with h | h | h
      case' inl =>
        have hc := cmpN_lt h
        have ksb := fun w => NSub_below m n w (fits_u64 HM.out) (fits_u64 HN.out) h
        have ksd := fun w => Small_nil w
        have KSB := Lib.hid ksb
        have KSD := Lib.hid ksd
        clear ksb ksd
        clear h
      case' inr.inl =>
        have hc : cmpN m n = 0 := by rw [h]; exact cmpN_eq _
        have hle : n ≤ m := by omega
        have hlt : m - n < 18446744073709551616 := by have := HM.out; omega
        have ksb := fun w => NSub_c m n w (fits_u64 HM.out) (fits_u64 HN.out) hle
        have ksd := fun w => Small_of (m - n) hlt w
        have KSB := Lib.hid ksb
        have KSD := Lib.hid ksd
        clear ksb ksd hle hlt
        have hsub : IntKind.u64.wrap ((m : Int) - (n : Int)) = ((m - n : Nat) : Int) := by rw [IntKind.wrap_u64]; have := HM.out; omega
        have H := Lib.hid h
        clear h
      case' inr.inr =>
        have hc := cmpN_gt h
        have hle : n ≤ m := by omega
        have hlt : m - n < 18446744073709551616 := by have := HM.out; omega
        have ksb := fun w => NSub_c m n w (fits_u64 HM.out) (fits_u64 HN.out) hle
        have ksd := fun w => Small_of (m - n) hlt w
        have KSB := Lib.hid ksb
        have KSD := Lib.hid ksd
        clear ksb ksd hle hlt
        have hsub : IntKind.u64.wrap ((m : Int) - (n : Int)) = ((m - n : Nat) : Int) := by rw [IntKind.wrap_u64]; have := HM.out; omega
        have H := Lib.hid h
        clear h
      all_goals
        go_wp2_with fail
        refine (KOM.out _).mono ?_
        rintro e x1 ⟨rfl, c1⟩
        go_wp2_with fail
        refine (KSM.out _).mono ?_
        rintro e x2 ⟨rfl, c2⟩
        go_wp2_with fail
        refine (KOM.out _).mono ?_
        rintro e x3 ⟨rfl, c3⟩
        go_wp2_with fail
        refine (KON.out _).mono ?_
        rintro e x4 ⟨rfl, c4⟩
        go_wp2_with fail
        refine (KCM.out _).mono ?_
        rintro e x5 ⟨rfl, c5⟩
        go_wp2_with fail
        refine (KOM.out _).mono ?_
        rintro e x6 ⟨rfl, c6⟩
        go_wp2_with fail
        refine (KON.out _).mono ?_
        rintro e x7 ⟨rfl, c7⟩
        go_wp2_with fail
        refine (KSB.out _).mono ?_
        rintro e x8 ⟨rfl, c8⟩
        go_wp2_with fail
        refine (compared_c m n _).mono ?_
        rintro e x9 ⟨rfl, rfl⟩
        go_wp2_with fail
        refine (KSD.out _).mono ?_
        rintro e x10 ⟨rfl, c10⟩
        go_wp2_with fail
        refine (awake_c _).mono ?_
        rintro e x11 ⟨rfl, c11⟩
        go_wp2_with fail
        go_ret
        exact ⟨rfl, below_chain hbB (below_chain c1 (below_chain c2 (below_chain c3 (below_chain c4 (below_chain c5 (below_chain c6 (below_chain c7 (below_chain c8 (below_chain c10 c11)))))))))⟩
end Go.Proofs.Ytjcicbnjoffbhaa
