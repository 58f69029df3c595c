/- Decimal texts there and back. -/
import Derived.Test.YtjcicbnjoffbhaaN29
set_option linter.unusedSimpArgs false
set_option linter.unusedVariables false
namespace Go.Proofs.Ytjcicbnjoffbhaa
open Go Go.RowKit Nt

/-- How many bytes the decimal text has. -/
def dlen (n : Nat) : Nat := if n = 0 then 1 else nd 10 n
theorem dlen_lt (n : Nat) : n < 10 ^ dlen n := by
  unfold dlen; split
  · rename_i h; subst h; decide
  · exact lt_nd (by omega)
theorem decS_size (n : Nat) : (decS n).size = dlen n := by
  unfold dlen
  by_cases h : n = 0
  · subst h; rw [decS_zero, if_pos rfl]; rfl
  · rw [decS_pos h, if_neg h]
    show Array.size _ = _
    simp [digs_length]
theorem decS_get (n j : Nat) (h : j < (decS n).size) : (decS n)[j].toNat = 48 + dgt 10 n (dlen n - 1 - j) := by
  have hj : j < dlen n := by rwa [decS_size] at h
  rw [ba_get]
  by_cases h0 : n = 0
  · subst h0
    have e1 : dlen 0 = 1 := by unfold dlen; rw [if_pos rfl]
    have hj0 : j = 0 := by omega
    subst hj0
    simp only [decS_zero]
    rw [dgt_def]; simp
  · have e : dlen n = nd 10 n := by unfold dlen; rw [if_neg h0]
    simp only [decS_pos h0]
    rw [List.getElem_toArray, List.getElem_map, List.getElem_reverse, digs_get, digs_length, UInt8.toNat_ofNat', Nat.mod_eq_of_lt, e]
    have := dgt_lt (b := 10) (by omega) n (nd 10 n - 1 - j); omega
/-- A text of digits by its value. -/
theorem val_dgt {s : ByteArray} (hd : Digits s) : ∀ k, k ≤ s.size → ∀ j, (hj : j < k) → (h : j < s.size) → s[j].toNat = 48 + dgt 10 (preV s k) (k - 1 - j) := by
  intro k
  induction k with
  | zero => intro _ j hj; omega
  | succ k ih =>
    intro hk j hj h
    have hdk := hd k (by omega)
    unfold isDig at hdk
    rw [preV_succ s k (by omega)]
    rcases Nat.lt_or_ge j k with h1 | h1
    · rw [ih (by omega) j h1 h, show k + 1 - 1 - j = 1 + (k - 1 - j) by omega]
      congr 1
      have e := dgt_shift (b := 10) (by omega) (s[k].toNat - 48) (preV s k) 1 (1 + (k - 1 - j)) (by rw [Nat.pow_one]; omega) (by omega)
      rw [Nat.pow_one, Nat.add_comm] at e
      rw [e]; congr 1; omega
    · obtain rfl : j = k := by omega
      rw [show j + 1 - 1 - j = 0 by omega, dgt_def, Nat.pow_zero, Nat.div_one]; omega
theorem pre_of_dec (n : Nat) : Valid (decS n) ∧ preV (decS n) (decS n).size = n := by
  have hdig : Digits (decS n) := fun k hk => by
    unfold isDig
    rw [decS_get n k hk]
    have := dgt_lt (b := 10) (by omega) n (dlen n - 1 - k); omega
  have hs := decS_size n
  have hp : 0 < (decS n).size := by
    rw [hs]; unfold dlen; split
    · omega
    · rename_i h
      rcases Nat.eq_zero_or_pos (nd 10 n) with h1 | h1
      · exact absurd ((nd_eq_zero (by omega)).1 h1) h
      · exact h1
  refine ⟨⟨hp, hdig, fun ⟨h1, h2⟩ => ?_⟩, ?_⟩
  · have h3 := h2 hp
    rw [decS_get n 0 hp] at h3
    rw [hs] at h1
    unfold dlen at h1 h3
    split at h1
    · omega
    · rename_i h0
      rw [if_neg h0] at h3
      have := dgt_top (b := 10) (by omega) h0
      rw [Nat.sub_zero] at h3; omega
  · refine eq_of_digits (b := 10) (L := dlen n) ?_ (dlen_lt n) (fun i hi => ?_)
    · have := dig_pre hdig (decS n).size (Nat.le_refl _); rw [hs] at this ⊢; exact this
    · have hj : dlen n - 1 - i < (decS n).size := by rw [hs]; omega
      have h1 := val_dgt hdig (decS n).size (Nat.le_refl _) (dlen n - 1 - i) hj hj
      have h2 := decS_get n (dlen n - 1 - i) hj
      rw [h2] at h1
      rw [show dlen n - 1 - (dlen n - 1 - i) = i by omega, show (decS n).size - 1 - (dlen n - 1 - i) = i by rw [hs]; omega] at h1
      omega
theorem dec_of_pre {s : ByteArray} (h : Valid s) : decS (preV s s.size) = s := by
  obtain ⟨hp, hd, hn⟩ := h
  have hlen : dlen (preV s s.size) = s.size := by
    by_cases h48 : s[0].toNat = 48
    · have h1 : s.size = 1 := by
        rcases Nat.lt_or_ge 1 s.size with h | h
        · exact absurd ⟨h, fun _ => h48⟩ hn
        · omega
      have h0 : preV s s.size = 0 := by rw [h1, preV_succ s 0 hp, preV_zero, h48]
      rw [h0, h1]; unfold dlen; rw [if_pos rfl]
    · obtain ⟨m, hm⟩ : ∃ m, s.size = m + 1 := ⟨s.size - 1, by omega⟩
      have h1 := pre_ge hd hp h48 m (by omega)
      have h2 := dig_pre hd s.size (Nat.le_refl _)
      rw [← hm] at h1
      have h3 : preV s s.size ≠ 0 := by have := Nat.pow_pos (n := m) (show 0 < 10 by omega); omega
      unfold dlen
      rw [if_neg h3, hm]
      rw [hm] at h1 h2
      exact nd_unique (by omega) h1 h2
  apply ba_ext (by rw [decS_size, hlen])
  intro j h1 h2
  rw [decS_get _ j h1, val_dgt hd s.size (Nat.le_refl _) j h2 h2, hlen]
/-- Read of any text. -/
theorem NRead_c (s : ByteArray) (w : World) (hs : s.size ≤ 9223372036854775807) (hv : Valid s) : Calls Try.prog 55 #[.string s] w (StrPost (resS (preV s s.size)) (resE (preV s s.size)) w) :=
  NRead_ok s w hs hv (fun hl => long_dec hv.2.1 hv.1 (fun c => hv.2.2 ⟨by omega, fun _ => c⟩) hl)
theorem NRead_no (s : ByteArray) (w : World) (hs : s.size ≤ 9223372036854775807) (hv : ¬ Valid s) : Calls Try.prog 55 #[.string s] w (StrPost ⟨#[]⟩ 22 w) := by
  by_cases h0 : s.size = 0
  · exact NRead_empty s w h0
  · have hp : 0 < s.size := by omega
    by_cases hn : 1 < s.size ∧ ∀ h : 0 < s.size, s[0].toNat = 48
    · exact NRead_nought s w hn.1 (hn.2 hp) hs
    · exact NRead_bad s w hs hp hn (fun hd => hv ⟨hp, hd, hn⟩)
theorem NText_any (n : Nat) (w : World) (hf : fits n) : Calls Try.prog 53 #[.string (natS n)] w (StrPost (decS n) 0 w) := by
  by_cases h : n = 0
  · subst h; exact NText_zero w
  · exact NText_c n w hf h
set_option maxRecDepth 100000 in
theorem compared_c (m n : Nat) (w : World) : Calls Try.prog 57 #[.int .u64 (m : Nat), .int .u64 (n : Nat)] w fun e w' => e = .returned (.int .i64 (cmpN m n)) ∧ w = w' := by
  rcases Nat.lt_trichotomy m n with h | h | h
  · have HC := Lib.hid (cmpN_lt h)
    go_enter Try.func57, Try.ntmps57
    go_wp2
    go_ret
    exact ⟨ret_int HC.out.symm, rfl⟩
  · subst h
    have HC := Lib.hid (cmpN_eq m)
    go_enter Try.func57, Try.ntmps57
    go_wp2
    go_ret
    exact ⟨ret_int HC.out.symm, rfl⟩
  · have HC := Lib.hid (cmpN_gt h)
    have h2 : ¬ m < n := by omega
    go_enter Try.func57, Try.ntmps57
    go_wp2
    go_ret
    exact ⟨ret_int HC.out.symm, rfl⟩
end Go.Proofs.Ytjcicbnjoffbhaa
