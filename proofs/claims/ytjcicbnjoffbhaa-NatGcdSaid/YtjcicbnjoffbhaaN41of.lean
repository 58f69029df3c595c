/- Contract: Of of the document. -/
import Derived.Test.YtjcicbnjoffbhaaN39
set_option linter.unusedSimpArgs false
set_option linter.unusedVariables false
namespace Go.Proofs.Ytjcicbnjoffbhaa
open Go Go.RowKit Nt

theorem dl_lt (n k : Nat) : ∀ x ∈ dl 256 n k, x < 256 := fun x hx => by
  obtain ⟨i, hi, rfl⟩ := List.getElem_of_mem hx
  rw [dl_length] at hi
  have e := dl_get? 256 n k i hi
  rw [List.getElem?_eq_getElem (by rw [dl_length]; exact hi)] at e
  rw [Option.some.inj e]
  exact dgt_lt (by omega) _ _
set_option maxRecDepth 100000 in
set_option maxHeartbeats 1000000 in
theorem rOf_c (n : Nat) (w : World) (hn : n < 18446744073709551616) :
    Calls Try.prog 24 #[.int .u64 (n : Nat)] w fun e w' => e = .returned (.string (natS n)) ∧ Below w.heap.size w w' := by
  obtain ⟨i0, hi0, hz0, hj1, hj2⟩ := info_parts (P := Try.prog) (e := 3) (z := .int .i64 0) (size := 1) (bytes := 8) (by kernel_rfl)
  have hN8 := br_lt.2 hn
  have H8 := Lib.hid hN8
  have HN := Lib.hid hn
  clear hN8 hn
  go_enter Try.func24, Try.ntmps24
  go_wp2
  go_loopw [0, 3] (fun x v wr => ∃ (k m : Nat), x = .int .u64 m ∧ Hid (m = n / 256 ^ k) ∧ Hid (k ≤ nd 256 n) ∧ Hid (Own wr w.heap.size 3 .i64 v (dl 256 n k)) ∧ Below w.heap.size w wr) (fun x _ _ => (intOf x).toNat)
  case atStart => exact ⟨0, n, rfl, Lib.hid (by rw [Nat.pow_zero, Nat.div_one]), Lib.hid (Nat.zero_le _), Lib.hid (Own.nil _ _ _ _), Below.refl _ _⟩
  case round =>
    obtain ⟨k, m, rfl, hm, hk, hown, hb⟩ := hrel
    by_cases h0 : m = 0
    · subst h0
      have hof : of 256 (dl 256 n k) = n := by
        rw [of_dl]
        refine Nat.mod_eq_of_lt ?_
        have h := hm.out
        exact (Nat.div_eq_zero_iff_lt (Nat.pow_pos (by omega))).1 h.symm
      have HOF := Lib.hid hof
      have HL := Lib.hid (show (dl 256 n k).length ≤ 1000000000 by rw [dl_length]; have := hk.out; have := H8.out; omega)
      clear hof
      go_wp2_with fail
      refine (rMade_c _ _ _ _ (dl_lt n k) HL.out hown.out).mono ?_
      rintro e w' ⟨rfl, hb'⟩
      go_wp2_with fail
      go_ret
      exact ⟨by rw [HOF.out]; rfl, below_chain hb hb'⟩
    · obtain ⟨d, hd⟩ : ∃ d, d = dgt 256 n k := ⟨_, rfl⟩
      have hdI : (m : Int) % 256 = (d : Int) := by
        rw [hd, dgt_def, ← hm.out]; omega
      have hd256 : d < 256 := by rw [hd]; exact dgt_lt (by omega) _ _
      have hqq : (m : Int).tdiv 256 = ((m / 256 : Nat) : Int) := by rw [Int.tdiv_eq_ediv_of_nonneg (by omega)]; omega
      have hm0 : (0 : Int) < (m : Int) := by omega
      have hlen : Hid ((dl 256 n k).length + 1 ≤ 17592186044416) := Lib.hid (by rw [dl_length]; have := hk.out; have := H8.out; omega)
      have HD := Lib.hid hd
      have hkn : Hid (k + 1 ≤ nd 256 n) := Lib.hid (by
        rcases Nat.lt_or_ge k (nd 256 n) with h | h
        · exact h
        · exact absurd (hm.out.trans (Nat.div_eq_of_lt ((lt_pow_iff (b := 256) (by omega) k n).2 h))) h0)
      have hmn : Hid (m / 256 = n / 256 ^ (k + 1)) := Lib.hid (by rw [hm.out, Nat.pow_succ, Nat.div_div_eq_div_mul])
      have hms : m < 18446744073709551616 := by rw [hm.out]; exact Nat.lt_of_le_of_lt (Nat.div_le_self _ _) HN.out
      have HMS := Lib.hid hms
      clear hd
      go_wp2_with (at_builtin; go_loud (refine wpList_app1 wr rfl (.tmp 6) (.tmp 10) _ rfl w.heap.size 3 3 i0 .i64 8 Try.underlying80 hi0 hz0 hj1 hj2 (by omega) _ (dl 256 n k) d rfl rfl hown.out hlen.out hb.size ?_); intro v5 w5 hown5 hb5 hfr5 hnw5)
      rw [HD.out, ← dl_succ] at hown5
      have HO5 := Lib.hid hown5
      clear hown5 hfr5 hnw5
      go_roundw
      case rel => exact ⟨k + 1, m / 256, rfl, hmn, hkn, HO5, hb.trans hb5⟩
      case measure => simp [intOf]; omega
end Go.Proofs.Ytjcicbnjoffbhaa
