/- Contracts: Len and Low of the document, Low of nat. -/
import Derived.Test.YtjcicbnjoffbhaaN37
set_option linter.unusedSimpArgs false
set_option linter.unusedVariables false
namespace Go.Proofs.Ytjcicbnjoffbhaa
open Go Go.RowKit Nt

theorem tz8_spec : ∀ n : Fin 256, n.val ≠ 0 → Lib.trailingZeros8 n.val < 8 ∧ n.val / 2 ^ Lib.trailingZeros8 n.val % 2 = 1 ∧ ∀ j : Fin 8, j.val < Lib.trailingZeros8 n.val → n.val / 2 ^ j.val % 2 = 0 := by decide +kernel
/-- The place of the lowest bit that is one. -/
def IsLow (n l : Nat) : Prop := (n = 0 → l = 0) ∧ (n ≠ 0 → dgt 2 n l = 1 ∧ ∀ j, j < l → dgt 2 n j = 0)
theorem low_lt {n l : Nat} (h0 : n ≠ 0) (h : IsLow n l) : l < nd 2 n := by
  rcases Nat.lt_or_ge l (nd 2 n) with h1 | h1
  · exact h1
  · have := dgt_big (b := 2) (by omega) h1; have := (h.2 h0).1; omega
theorem low_unique {n k l : Nat} (hk : IsLow n k) (hl : IsLow n l) : k = l := by
  by_cases h0 : n = 0
  · rw [hk.1 h0, hl.1 h0]
  · obtain ⟨k1, k2⟩ := hk.2 h0
    obtain ⟨l1, l2⟩ := hl.2 h0
    rcases Nat.lt_trichotomy k l with h | h | h
    · have := l2 k h; omega
    · exact h
    · have := k2 l h; omega
theorem first_one (n : Nat) : ∀ m, (∃ l, l < m ∧ dgt 2 n l = 1 ∧ ∀ j, j < l → dgt 2 n j = 0) ∨ ∀ j, j < m → dgt 2 n j = 0 := by
  intro m
  induction m with
  | zero => exact Or.inr fun j h => by omega
  | succ m ih =>
    rcases ih with ⟨l, h1, h2, h3⟩ | h
    · exact Or.inl ⟨l, by omega, h2, h3⟩
    · have hl := dgt_lt (b := 2) (by omega) n m
      by_cases hm : dgt 2 n m = 0
      · refine Or.inr fun j hj => ?_
        by_cases c : j = m
        · rw [c]; exact hm
        · exact h j (by omega)
      · exact Or.inl ⟨m, by omega, by omega, h⟩
theorem low_ex (n : Nat) : ∃ l, IsLow n l := by
  by_cases h0 : n = 0
  · exact ⟨0, fun _ => rfl, fun c => absurd h0 c⟩
  · rcases first_one n (nd 2 n) with ⟨l, _, h2, h3⟩ | h
    · exact ⟨l, fun c => absurd c h0, fun _ => ⟨h2, h3⟩⟩
    · have h1 := dgt_top (b := 2) (by omega) h0
      have h2 : 0 < nd 2 n := by
        rcases Nat.eq_zero_or_pos (nd 2 n) with c | c
        · exact absurd ((nd_eq_zero (by omega)).1 c) h0
        · exact c
      exact absurd (h (nd 2 n - 1) (by omega)) h1
theorem rBit_0 (n : Nat) (i : Nat) (w : World) (hf : fits n) (hi : i ≤ 9223372036854775807) (h : dgt 2 n i = 0) :
    Calls Try.prog 31 #[.string (natS n), .int .i64 (i : Nat)] w fun e w' => e = .returned (.int .i64 0) ∧ w = w' := by
  have := rBit_c n i w hf hi
  rwa [h] at this
theorem rBit_1 (n : Nat) (i : Nat) (w : World) (hf : fits n) (hi : i ≤ 9223372036854775807) (h : dgt 2 n i = 1) :
    Calls Try.prog 31 #[.string (natS n), .int .i64 (i : Nat)] w fun e w' => e = .returned (.int .i64 1) ∧ w = w' := by
  have := rBit_c n i w hf hi
  rwa [h] at this
set_option maxRecDepth 100000 in
theorem rLen_c (n : Nat) (w : World) (hf : fits n) :
    Calls Try.prog 29 #[.string (natS n)] w fun e w' => e = .returned (.int .i64 (nd 2 n : Nat)) ∧ w = w' := by
  have hsz := natS_size n
  have hL : nd 256 n ≤ 16384 := hf
  have hbb := bytes_bits n
  have HF := Lib.hid hf
  obtain ⟨N, hN⟩ : ∃ N, N = nd 256 n := ⟨_, rfl⟩
  rw [← hN] at hsz hL hbb
  have HBB := Lib.hid hbb
  clear hN hf hbb
  go_enter Try.func29, Try.ntmps29
  go_wp2
  go_loopw [3] (fun i wr => ∃ k : Nat, k ≤ 8 * N ∧ i = .int .i64 k ∧ Hid (nd 2 n ≤ k) ∧ w = wr) (fun i _ => (intOf i).toNat)
  case atStart => exact ⟨8 * N, Nat.le_refl _, by go_num, Lib.hid (by have := HBB.out; omega), rfl⟩
  case round =>
    obtain ⟨k, hk, rfl, hle, rfl⟩ := hrel
    by_cases h0 : k = 0
    · subst h0
      have HZ := Lib.hid (show nd 2 n = 0 by have := hle.out; omega)
      go_wp2
      go_ret
      exact ⟨by rw [HZ.out]; rfl, rfl⟩
    · obtain ⟨m, rfl⟩ : ∃ m, k = m + 1 := ⟨k - 1, by omega⟩
      have hw : wrap64 ((m : Int) + 1 - 1) = (m : Int) := by rw [IntWalk.wrap64_in _ (by omega)]; omega
      by_cases h1 : nd 2 n = m + 1
      · have hb : dgt 2 n m = 1 := by
          have h2 := dgt_top (b := 2) (n := n) (by omega) (fun c => by rw [c, nd_zero] at h1; omega)
          rw [h1, Nat.add_sub_cancel] at h2
          have := dgt_lt (b := 2) (by omega) n m
          omega
        have K := Lib.hid (fun w => rBit_1 n m w HF.out (by omega) hb)
        have H1 := Lib.hid h1
        clear h1 hb
        go_wp2_with (go_at_call 31; refine (K.out _).mono ?_; rintro e w' ⟨rfl, rfl⟩)
        go_ret
        exact ⟨by rw [H1.out]; rfl, rfl⟩
      · have hb : dgt 2 n m = 0 := dgt_big (by omega) (by have := hle.out; omega)
        have K := Lib.hid (fun w => rBit_0 n m w HF.out (by omega) hb)
        have H1 := Lib.hid (show nd 2 n ≤ m by have := hle.out; omega)
        clear h1 hb
        go_wp2_with (go_at_call 31; refine (K.out _).mono ?_; rintro e w' ⟨rfl, rfl⟩)
        go_roundw
        case rel => exact ⟨m, by omega, rfl, H1, trivial⟩
        case measure => simp [intOf]; try omega
set_option maxRecDepth 100000 in
theorem rLow_c (n l : Nat) (w : World) (hf : fits n) (hl : IsLow n l) :
    Calls Try.prog 30 #[.string (natS n)] w fun e w' => e = .returned (.int .i64 (l : Nat)) ∧ w = w' := by
  by_cases h0 : n = 0
  · have hE := natS_empty h0
    have HZ := Lib.hid (hl.1 h0)
    clear hl h0 hf
    go_enter Try.func30, Try.ntmps30
    go_wp2
    go_ret
    exact ⟨by rw [HZ.out]; rfl, rfl⟩
  · have hE := natS_full h0
    have hE2 := natS_full2 h0
    have hlt := low_lt h0 hl
    have hbb := bits_131072 hf
    have hlb : l < 131072 := by omega
    have HF := Lib.hid hf
    have HL := Lib.hid (hl.2 h0)
    clear hl h0 hf hlt hbb
    go_enter Try.func30, Try.ntmps30
    go_wp2
    go_loopw [3] (fun i wr => ∃ k : Nat, k ≤ l ∧ i = .int .i64 k ∧ w = wr) (fun i _ => l - (intOf i).toNat)
    case atStart => exact ⟨0, Nat.zero_le _, rfl, rfl⟩
    case round =>
      obtain ⟨k, hk, rfl, rfl⟩ := hrel
      by_cases h1 : k < l
      · have K := Lib.hid (fun w => rBit_0 n k w HF.out (by omega) (HL.out.2 k h1))
        go_wp2_with (go_at_call 31; refine (K.out _).mono ?_; rintro e w' ⟨rfl, rfl⟩)
        go_roundw
        case rel => exact ⟨k + 1, by omega, by go_num, trivial⟩
        case measure => simp [intOf]; omega
      · obtain rfl : k = l := by omega
        have K := Lib.hid (fun w => rBit_1 n k w HF.out (by omega) HL.out.1)
        go_wp2_with (go_at_call 31; refine (K.out _).mono ?_; rintro e w' ⟨rfl, rfl⟩)
        go_ret
        exact ⟨rfl, rfl⟩
theorem low_byte {n q : Nat} (hz : ∀ j, j < q → dgt 256 n j = 0) (hb : dgt 256 n q ≠ 0) : IsLow n (8 * q + Lib.trailingZeros8 (dgt 256 n q)) := by
  have hlt := dgt_lt (b := 256) (by omega) n q
  obtain ⟨t1, t2, t3⟩ := tz8_spec ⟨dgt 256 n q, hlt⟩ hb
  simp only at t1 t2 t3
  have h0 : n ≠ 0 := fun c => hb (by rw [c, dgt_def, Nat.zero_div])
  refine ⟨fun c => absurd c h0, fun _ => ⟨?_, fun j hj => ?_⟩⟩
  · rw [← byte_bit n q _ t1]; exact t2
  · by_cases h : j / 8 < q
    · have e := byte_bit n (j / 8) (j % 8) (by omega)
      rw [show 8 * (j / 8) + j % 8 = j by omega, hz _ h, Nat.zero_div] at e
      exact e.symm
    · have hq : j / 8 = q := by omega
      have e := byte_bit n q (j % 8) (by omega)
      rw [show 8 * q + j % 8 = j by omega] at e
      rw [← e]
      exact t3 ⟨j % 8, by omega⟩ (by show j % 8 < _; omega)
set_option maxRecDepth 100000 in
theorem NLow_no (s : ByteArray) (w : World) (h : ¬ May s) :
    Calls Try.prog 26 #[.string s] w (IntPost 0 2 w) := by
  have hm := may1_no h
  go_enter Try.func26, Try.ntmps26
  go_wp2_with (go_at_call 21; refine (Check_c _ _).mono ?_; rintro e w1 ⟨rfl, hb⟩)
  go_ret2
  exact ⟨rfl, hb⟩
set_option maxRecDepth 100000 in
theorem NLow_c (n l : Nat) (w : World) (hf : fits n) (hl : IsLow n l) :
    Calls Try.prog 26 #[.string (natS n)] w (IntPost (l : Nat) 0 w) := by
  have hm := may1 hf
  have hsz := natS_size n
  have hL : nd 256 n ≤ 16384 := hf
  obtain ⟨N, hN⟩ : ∃ N, N = nd 256 n := ⟨_, rfl⟩
  have hg := fun k (h : k < (natS n).size) => natS_get n k h
  rw [← hN] at hsz hL hg
  have HG := Lib.hid hg
  have HN := Lib.hid hN
  have HL := Lib.hid hl
  clear hN hg hl hf
  go_enter Try.func26, Try.ntmps26
  go_wp2_with (go_at_call 21; refine (Check_c _ _).mono ?_; rintro e w1 ⟨rfl, hb⟩)
  go_loopw [5] (fun i wr => ∃ (k : Nat) (z : Int), k ≤ N ∧ i = .int .i64 z ∧ Hid (z = (k : Int) - 1) ∧ Hid (∀ j, j < N - k → dgt 256 n j = 0) ∧ Below w.heap.size w wr) (fun i _ => (intOf i + 1).toNat)
  case atStart => exact ⟨N, _, Nat.le_refl _, rfl, Lib.hid (by first | rfl | omega | go_num), Lib.hid (fun j h => by omega), hb⟩
  case round =>
    obtain ⟨k, z, hk, rfl, hz, hj, hbw⟩ := hrel
    by_cases h0 : k = 0
    · subst h0
      obtain rfl : z = -1 := by have := hz.out; omega
      have HZ := Lib.hid (show l = 0 by
        refine HL.out.1 ((nd_eq_zero (b := 256) (by omega)).1 ?_)
        rcases Nat.eq_zero_or_pos (nd 256 n) with c | c
        · exact c
        · have h1 := dgt_top (b := 256) (n := n) (by omega) (fun d => by rw [d, nd_zero] at c; omega)
          exact absurd (hj.out (nd 256 n - 1) (by have := HN.out; omega)) h1)
      go_wp2
      go_ret2
      exact ⟨by rw [HZ.out]; rfl, hbw⟩
    · obtain ⟨m, rfl⟩ : ∃ m, k = m + 1 := ⟨k - 1, by omega⟩
      obtain rfl : z = (m : Int) := by have := hz.out; omega
      have hms : m < (natS n).size := by omega
      have e := HG.out m hms
      have hlt := (natS n)[m].toNat_lt
      have hw : wrap64 ((m : Int) - 1) = (m : Int) - 1 := IntWalk.wrap64_in _ (by omega)
      by_cases h1 : (natS n)[m].toNat = 0
      · have h1' := nne_false h1
        have HJ := Lib.hid (show ∀ j, j < N - m → dgt 256 n j = 0 from fun j hj2 => by
          by_cases c : j = N - 1 - m
          · rw [c, ← e]; exact h1
          · exact hj.out j (by omega))
        clear h1 e
        go_wp2
        go_roundw
        case rel => exact ⟨m, _, by omega, rfl, Lib.hid rfl, HJ, hbw⟩
        case measure => simp [intOf]; try omega
      · have h1' := nne_true h1
        have hlo := low_byte (n := n) (q := N - 1 - m) (fun j h => hj.out j (by omega)) (by rw [← e]; exact h1)
        rw [← e] at hlo
        obtain ⟨t, ht⟩ : ∃ t, t = Lib.trailingZeros8 (natS n)[m].toNat := ⟨_, rfl⟩
        have ht8 : t ≤ 8 := by rw [ht]; exact Lib.trailingZeros8_le8 ⟨(natS n)[m].toNat, hlt⟩
        have ht2 : ∀ w, Calls Try.prog 63 #[.int .u8 ((natS n)[m].toNat : Nat)] w fun e w' => e = .returned (.int .i64 (t : Nat)) ∧ w = w' := fun w => by
          refine (Try.bits_TrailingZeros8 _ _ (by omega) (by omega)).mono ?_
          rintro e w' ⟨rfl, rfl⟩
          exact ⟨by rw [Int.toNat_natCast, ← ht], rfl⟩
        rw [← ht] at hlo
        have hfin := low_unique HL.out hlo
        obtain ⟨q, hq⟩ : ∃ q, q = N - 1 - m := ⟨_, rfl⟩
        rw [← hq] at hfin
        have hqI : (N : Int) - 1 - (m : Int) = (q : Int) := by omega
        have HF := Lib.hid hfin
        have K := Lib.hid ht2
        have hqN : q ≤ 16384 := by omega
        clear h1 e hlo ht ht2 hfin hq
        go_wp2_with (go_at_call 63; refine (K.out _).mono ?_; rintro e w' ⟨rfl, rfl⟩)
        go_ret2
        exact ⟨by rw [HF.out]; congr 1, hbw⟩
end Go.Proofs.Ytjcicbnjoffbhaa
