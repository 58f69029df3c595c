/- Numbers as texts of bytes, in words; how many bits. -/
import Derived.Test.YtjkonfopajihdaaDoorN1
import Derived.Lib.BitFns
set_option linter.unusedSimpArgs false
set_option linter.unusedVariables false
namespace Nt

@[irreducible] def W : Nat := 18446744073709551616
theorem W_eq : W = 18446744073709551616 := by unfold W; rfl
theorem W_two : W = 2 ^ 64 := by rw [W_eq]
theorem W_256 : W = 256 ^ 8 := by rw [W_eq]
theorem W2 : 2 ≤ W := by rw [W_eq]; omega
theorem W0 : 0 < W := by rw [W_eq]; omega
theorem wd_lt (n i : Nat) : dgt W n i < 18446744073709551616 := Nat.lt_of_lt_of_eq (dgt_lt W0 n i) W_eq
theorem words_bytes (n : Nat) : (nd 256 n + 7) / 8 = nd W n := by
  have h := fun k => nd_pow (b := 256) (c := W) (e := 8) (by omega) (by omega) W_256 n k
  have h1 := (h (nd W n)).2 (Nat.le_refl _)
  have h2 := (h ((nd 256 n + 7) / 8)).1 (by omega)
  omega
theorem bytes_bits (n : Nat) : (nd 2 n + 7) / 8 = nd 256 n := by
  have h := fun k => nd_pow (b := 2) (c := 256) (e := 8) (by omega) (by omega) (by rfl) n k
  have h1 := (h (nd 256 n)).2 (Nat.le_refl _)
  have h2 := (h ((nd 2 n + 7) / 8)).1 (by omega)
  omega
theorem bits_le (n k : Nat) : nd 2 n ≤ 8 * k ↔ nd 256 n ≤ k := nd_pow (b := 2) (c := 256) (e := 8) (by omega) (by omega) (by rfl) n k
theorem nd_unique {b n k : Nat} (hb : 2 ≤ b) (h1 : b ^ k ≤ n) (h2 : n < b ^ (k + 1)) : nd b n = k + 1 := by
  have := nd_le hb h2; have := (pow_le_iff hb k n).1 h1; omega
/-- The digits of a number: so many of its lower digits' base's, and those of the highest one. -/
theorem nd_top {b c e : Nat} (hb : 2 ≤ b) (he : 0 < e) (hc : c = b ^ e) (n : Nat) (hn : n ≠ 0) : nd b n = e * (nd c n - 1) + nd b (dgt c n (nd c n - 1)) := by
  have hc2 : 2 ≤ c := by
    subst hc; obtain ⟨f, rfl⟩ : ∃ f, e = f + 1 := ⟨e - 1, by omega⟩
    rw [Nat.pow_succ]; have := Nat.pow_pos (n := f) (show 0 < b by omega); exact Nat.le_trans hb (Nat.le_mul_of_pos_left _ this)
  have h0 : nd c n ≠ 0 := fun k => hn ((nd_eq_zero hc2).1 k)
  have ht := dgt_top hc2 hn
  obtain ⟨L, hL⟩ : ∃ L, nd c n = L + 1 := ⟨nd c n - 1, by omega⟩
  rw [hL, Nat.add_sub_cancel] at ht ⊢
  have hnl : n < c ^ (L + 1) := by rw [← hL]; exact lt_nd hc2
  have hd : n / c ^ L = dgt c n L := by
    rw [dgt_def, Nat.mod_eq_of_lt]
    rw [Nat.div_lt_iff_lt_mul (Nat.pow_pos (by omega)), Nat.mul_comm, ← Nat.pow_succ]; exact hnl
  have hcl : c ^ L = b ^ (e * L) := by rw [hc, ← Nat.pow_mul]
  generalize dgt c n L = d at *
  have hd0 : nd b d ≠ 0 := fun k => ht ((nd_eq_zero hb).1 k)
  obtain ⟨m, hm⟩ : ∃ m, nd b d = m + 1 := ⟨nd b d - 1, by omega⟩
  have h3 := lt_nd (n := d) hb
  have h4 : b ^ m ≤ d := (pow_le_iff hb m d).2 (by omega)
  rw [hm] at h3 ⊢
  rw [← Nat.add_assoc]
  have hp : 0 < b ^ (e * L) := Nat.pow_pos (by omega)
  rw [hcl] at hd
  apply nd_unique hb
  · rw [Nat.pow_add, Nat.mul_comm]; exact Nat.le_trans (Nat.mul_le_mul_right _ (hd ▸ h4)) (Nat.div_mul_le_self _ _)
  · rw [Nat.add_assoc, Nat.pow_add, Nat.mul_comm, ← Nat.div_lt_iff_lt_mul hp, hd]; exact h3

/-! Texts. -/
@[irreducible] def natS (n : Nat) : ByteArray := ⟨((dl 256 n (nd 256 n)).reverse.map UInt8.ofNat).toArray⟩
theorem natS_def (n : Nat) : natS n = ⟨((dl 256 n (nd 256 n)).reverse.map UInt8.ofNat).toArray⟩ := by unfold natS; rfl
theorem natS_size (n : Nat) : (natS n).size = nd 256 n := by
  rw [natS_def]; show (Array.size _) = _; simp [dl_length]
theorem natS_zero : natS 0 = ⟨#[]⟩ := by rw [natS_def, nd_zero]; rfl
theorem ba_get (s : ByteArray) (i : Nat) (h : i < s.size) : s[i] = s.data[i]'h := rfl
theorem natS_get (n i : Nat) (h : i < (natS n).size) : ((natS n)[i]).toNat = dgt 256 n (nd 256 n - 1 - i) := by
  have hi : i < nd 256 n := by rwa [natS_size] at h
  rw [ba_get]
  simp only [natS_def]
  rw [List.getElem_toArray, List.getElem_map, List.getElem_reverse]
  have e := dl_get? 256 n (nd 256 n) ((dl 256 n (nd 256 n)).length - 1 - i) (by rw [dl_length]; omega)
  rw [List.getElem?_eq_getElem (by rw [dl_length]; omega)] at e
  rw [Option.some.inj e, dl_length, UInt8.toNat_ofNat']
  exact Nat.mod_eq_of_lt (dgt_lt (by omega) _ _)
theorem ba_ext {s t : ByteArray} (h : s.size = t.size) (h2 : ∀ i (h1 : i < s.size) (h2 : i < t.size), s[i].toNat = t[i].toNat) : s = t := by
  apply ByteArray.ext; apply Array.ext h
  intro i a b
  exact UInt8.toNat_inj.1 (h2 i a b)
theorem natS_inj {m n : Nat} (h : natS m = natS n) : m = n := by
  have hs : nd 256 m = nd 256 n := by rw [← natS_size, ← natS_size, h]
  refine eq_of_digits (b := 256) (L := nd 256 m) (lt_nd (by omega)) (hs ▸ lt_nd (by omega)) (fun i hi => ?_)
  have h1 := natS_get m (nd 256 m - 1 - i) (by rw [natS_size]; omega)
  have h2 := natS_get n (nd 256 m - 1 - i) (by rw [natS_size]; omega)
  rw [show nd 256 m - 1 - (nd 256 m - 1 - i) = i by omega] at h1
  rw [show nd 256 n - 1 - (nd 256 m - 1 - i) = i by omega] at h2
  rw [← h1, ← h2]; simp only [h]
/-- May a text of bytes be? -/
def May (s : ByteArray) : Prop := s.size ≤ 16384 ∧ ∀ h : 0 < s.size, s[0].toNat ≠ 0
/-- May a number be? -/
def fits (n : Nat) : Prop := nd 256 n ≤ 16384
instance (n : Nat) : Decidable (fits n) := inferInstanceAs (Decidable (_ ≤ _))
theorem may_natS (n : Nat) : May (natS n) ↔ fits n := by
  unfold May fits
  have hz := natS_size n
  constructor
  · intro h; rw [← hz]; exact h.1
  · refine fun h => ⟨by rw [hz]; exact h, fun h0 => ?_⟩
    rw [natS_get n 0 (by rw [natS_size]; omega)]
    exact dgt_top (by omega) (fun c => by subst c; rw [natS_size, nd_zero] at h0; omega)
/-- The number of any bytes. -/
def bytesN (s : ByteArray) : Nat := of 256 (s.data.toList.reverse.map UInt8.toNat)
theorem bytesN_lt (s : ByteArray) : bytesN s < 256 ^ s.size := by
  have := of_lt (b := 256) (by omega) (s.data.toList.reverse.map UInt8.toNat) (fun x hx => by
    obtain ⟨y, _, rfl⟩ := List.mem_map.1 hx; exact y.toNat_lt)
  unfold bytesN
  rwa [List.length_map, List.length_reverse, Array.length_toList] at this
theorem bytesN_dgt (s : ByteArray) (i : Nat) (h : i < s.size) : dgt 256 (bytesN s) (s.size - 1 - i) = (s[i]).toNat := by
  unfold bytesN
  have hl : (s.data.toList.reverse.map UInt8.toNat).length = s.size := by rw [List.length_map, List.length_reverse, Array.length_toList]; rfl
  rw [dgt_of (by omega) _ (fun x hx => by obtain ⟨y, _, rfl⟩ := List.mem_map.1 hx; exact y.toNat_lt) _ (by rw [hl]; omega)]
  rw [List.getElem_map, List.getElem_reverse, ba_get]
  congr 1
  rw [Array.getElem_toList]
  congr 1
  rw [Array.length_toList]
  have : s.size = s.data.size := rfl
  omega
theorem may_ex {s : ByteArray} (h : May s) : s = natS (bytesN s) := by
  have hz : nd 256 (bytesN s) = s.size := by
    have h1 := nd_le (by omega) (bytesN_lt s)
    rcases Nat.eq_zero_or_pos s.size with h0 | h0
    · omega
    · have h2 := bytesN_dgt s 0 h0
      have h3 := h.2 h0
      rw [← h2] at h3
      rcases Nat.lt_or_ge (s.size - 1 - 0) (nd 256 (bytesN s)) with h4 | h4
      · omega
      · exact absurd (dgt_big (by omega) h4) h3
  apply ba_ext (by rw [natS_size, hz])
  intro i a b
  rw [natS_get _ _ b, hz, bytesN_dgt s i a]
theorem bytesN_natS (n : Nat) : bytesN (natS n) = n := by
  refine eq_of_digits (b := 256) (L := nd 256 n) (by have := bytesN_lt (natS n); rwa [natS_size] at this) (lt_nd (by omega)) (fun i hi => ?_)
  have h1 := bytesN_dgt (natS n) (nd 256 n - 1 - i) (by rw [natS_size]; omega)
  rw [natS_get, natS_size, show nd 256 n - 1 - (nd 256 n - 1 - i) = i by omega] at h1
  exact h1
theorem may_num {s : ByteArray} (h : May s) : ∃ n, fits n ∧ s = natS n := ⟨bytesN s, (may_natS _).1 (may_ex h ▸ h), may_ex h⟩
theorem bitLenAux_nd : ∀ (f x : Nat), nd 2 x ≤ f → Go.Lib.bitLenAux f x = nd 2 x := by
  intro f
  induction f with
  | zero => intro x h; unfold Go.Lib.bitLenAux; omega
  | succ f ih =>
    intro x h
    unfold Go.Lib.bitLenAux
    by_cases h0 : x = 0
    · rw [if_pos h0, h0, nd_zero]
    · rw [nd_step (by omega) h0] at h ⊢
      rw [if_neg h0, ih _ (by omega)]; omega
theorem bitLen_nd {x : Nat} (h : x < 18446744073709551616) : Go.Lib.bitLen x = nd 2 x := by
  unfold Go.Lib.bitLen
  exact bitLenAux_nd _ _ (nd_le (by omega) h)

/-! What has been read when k bytes of a text are. -/
def readV (s : ByteArray) (k : Nat) : Nat := 256 ^ (s.size - k) * (bytesN s / 256 ^ (s.size - k))
theorem readV_zero (s : ByteArray) : readV s 0 = 0 := by
  unfold readV; rw [Nat.sub_zero, Nat.div_eq_of_lt (bytesN_lt s), Nat.mul_zero]
theorem readV_full (s : ByteArray) : readV s s.size = bytesN s := by
  unfold readV; rw [Nat.sub_self, Nat.pow_zero, Nat.one_mul, Nat.div_one]
theorem or_hi (x y p : Nat) (hy : y < 2 ^ p) : (2 ^ p * x) ||| y = 2 ^ p * x + y := by
  rw [Nat.two_pow_add_eq_or_of_lt hy]
theorem mul_lt_pow {x b r e : Nat} (hx : x < b) (hr : r < e) (hb : 0 < b) : x * b ^ r < b ^ e := by
  have h1 : (x + 1) * b ^ r ≤ b * b ^ r := Nat.mul_le_mul_right _ hx
  have h2 : b ^ (r + 1) ≤ b ^ e := Nat.pow_le_pow_right hb hr
  have h3 := Nat.pow_pos (n := r) hb
  rw [Nat.pow_succ, Nat.mul_comm] at h2
  rw [Nat.add_mul, Nat.one_mul] at h1; omega
/-- A byte put into words below what stands there. -/
theorem put_byte (V Q v q r : Nat) (hr : r < 8) (hv : v < 256) (hV : V = 256 ^ (8 * q + r + 1) * Q) :
    (dgt W V q ||| v * 256 ^ r) = dgt W V q + v * 256 ^ r ∧ dgt W V q + v * 256 ^ r < 18446744073709551616 ∧
    put W V q (dgt W V q + v * 256 ^ r) = V + 256 ^ (8 * q + r) * v := by
  have h1 : dgt W V q = 256 ^ (r + 1) * (Q % 256 ^ (7 - r)) := by
    rw [dgt_def, hV, W_256, ← Nat.pow_mul, show 8 * q + r + 1 = 8 * q + (r + 1) by omega, Nat.pow_add, Nat.mul_assoc, Nat.mul_div_cancel_left _ (Nat.pow_pos (by omega))]
    conv => lhs; rw [show 8 = (r + 1) + (7 - r) by omega, Nat.pow_add 256 (r + 1) (7 - r)]
    rw [Nat.mul_mod_mul_left]
  have h2 : v * 256 ^ r < 256 ^ (r + 1) := mul_lt_pow hv (by omega) (by omega)
  have h3 : dgt W V q + v * 256 ^ r < W := by
    rw [h1, W_256]
    have h4 : Q % 256 ^ (7 - r) < 256 ^ (7 - r) := Nat.mod_lt _ (Nat.pow_pos (by omega))
    have h5 : 256 ^ (r + 1) * (Q % 256 ^ (7 - r) + 1) ≤ 256 ^ (r + 1) * 256 ^ (7 - r) := Nat.mul_le_mul_left _ h4
    rw [← Nat.pow_add, show r + 1 + (7 - r) = 8 by omega, Nat.mul_add] at h5
    omega
  refine ⟨?_, Nat.lt_of_lt_of_eq h3 W_eq, ?_⟩
  · rw [h1, show (256 : Nat) ^ (r + 1) = 2 ^ (8 * (r + 1)) by rw [Nat.pow_mul]] at *
    exact or_hi _ _ _ h2
  · have h4 := put_eq V q (dgt W V q + v * 256 ^ r) W0
    rw [Nat.mul_add] at h4
    have h5 : W ^ q * (v * 256 ^ r) = 256 ^ (8 * q + r) * v := by rw [W_256, ← Nat.pow_mul, Nat.pow_add, Nat.mul_comm v, Nat.mul_assoc]
    rw [h5] at h4; omega
theorem readV_form (s : ByteArray) (k m : Nat) (h : s.size = k + 1 + m) : readV s k = 256 ^ (m + 1) * (bytesN s / 256 ^ (m + 1)) := by
  unfold readV; rw [show s.size - k = m + 1 by omega]
theorem readV_succ (s : ByteArray) (k m : Nat) (h : s.size = k + 1 + m) (hk : k < s.size) : readV s (k + 1) = readV s k + 256 ^ m * (s[k]).toNat := by
  rw [readV_form s k m h]
  unfold readV
  rw [show s.size - (k + 1) = m by omega, div_eq_dgt (b := 256) (by omega) (bytesN s) m]
  have := bytesN_dgt s k hk
  rw [show s.size - 1 - k = m by omega] at this
  rw [this, Nat.mul_add, Nat.pow_succ, ← Nat.mul_assoc, Nat.add_comm]
theorem read_step (s : ByteArray) (k m q r : Nat) (h : s.size = k + 1 + m) (hk : k < s.size) (hq : m / 8 = q) (hr : m % 8 = r) :
    (dgt W (readV s k) q ||| (s[k]).toNat * 256 ^ r) = dgt W (readV s k) q + (s[k]).toNat * 256 ^ r ∧ dgt W (readV s k) q + (s[k]).toNat * 256 ^ r < 18446744073709551616 ∧
    put W (readV s k) q (dgt W (readV s k) q + (s[k]).toNat * 256 ^ r) = readV s (k + 1) := by
  have hm : m = 8 * q + r := by omega
  have := put_byte (readV s k) (bytesN s / 256 ^ (m + 1)) (s[k]).toNat q r (by omega) (s[k]).toNat_lt (by rw [readV_form s k m h, hm])
  rw [readV_succ s k m h hk, hm]; exact this
end Nt
