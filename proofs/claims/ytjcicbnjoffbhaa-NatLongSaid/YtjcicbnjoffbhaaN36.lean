/- The law NatLong. -/
import Derived.Test.YtjcicbnjoffbhaaN35
import Derived.Test.YtjcicbnjoffbhaaN27
set_option linter.unusedSimpArgs false
set_option linter.unusedVariables false
namespace Go.Proofs.Ytjcicbnjoffbhaa
open Go Go.RowKit Nt

theorem dgt_full {L j : Nat} (h : j < L) : dgt 256 (256 ^ L - 1) j = 255 := by
  rw [dgt_def]
  obtain ⟨d, rfl⟩ : ∃ d, L = j + 1 + d := ⟨L - j - 1, by omega⟩
  have p1 : 0 < 256 ^ j := Nat.pow_pos (by omega)
  have p2 : 0 < 256 ^ d := Nat.pow_pos (by omega)
  have e : 256 ^ (j + 1 + d) = 256 ^ j * (256 * 256 ^ d) := by rw [Nat.pow_add, Nat.pow_succ, Nat.mul_assoc]
  obtain ⟨q, hq⟩ : ∃ q, 256 ^ d = q + 1 := ⟨256 ^ d - 1, by omega⟩
  obtain ⟨r, hr⟩ : ∃ r, 256 ^ j = r + 1 := ⟨256 ^ j - 1, by omega⟩
  have e2 : 256 ^ (j + 1 + d) - 1 = r + 256 ^ j * (256 * q + 255) := by
    rw [e, hq, hr]
    have : (r + 1) * (256 * (q + 1)) = (r + 1) * (256 * q + 255) + (r + 1) := by rw [show 256 * (q + 1) = (256 * q + 255) + 1 by omega, Nat.mul_succ]
    omega
  rw [e2, Nat.add_mul_div_left _ _ p1, Nat.div_eq_of_lt (by omega)]
  omega
@[irreducible] def FL : Nat := 16384
theorem FL_eq : FL = 16384 := by unfold FL; rfl
@[irreducible] def FN : Nat := 256 ^ FL - 1
theorem FN_eq : FN = 256 ^ FL - 1 := by unfold FN; rfl
theorem FN_succ : FN + 1 = 256 ^ FL := by have : 0 < 256 ^ FL := Nat.pow_pos (by omega); rw [FN_eq]; omega
theorem FN_nd : nd 256 FN = FL := by
  have h := FN_succ
  obtain ⟨k, hk⟩ : ∃ k, FL = k + 1 := ⟨FL - 1, by have := FL_eq; omega⟩
  rw [hk] at h ⊢
  have p : 0 < 256 ^ k := Nat.pow_pos (by omega)
  have e : 256 ^ (k + 1) = 256 ^ k * 256 := Nat.pow_succ ..
  exact nd_unique (by omega) (by omega) (by omega)
theorem FN_bits : nd 2 FN = 131072 := by
  have h := FN_succ
  have e : (256 : Nat) ^ FL = 2 ^ (8 * FL) := by rw [Nat.pow_mul]
  obtain ⟨k, hk⟩ : ∃ k, 8 * FL = k + 1 := ⟨8 * FL - 1, by have := FL_eq; omega⟩
  rw [e, hk] at h
  have p : 0 < 2 ^ k := Nat.two_pow_pos k
  have e2 : 2 ^ (k + 1) = 2 ^ k * 2 := Nat.pow_succ ..
  have := nd_unique (b := 2) (n := FN) (k := k) (by omega) (by omega) (by omega)
  have := FL_eq
  omega
theorem FN_fits : fits FN := by unfold fits; rw [FN_nd, FL_eq]; exact Nat.le_refl _
theorem FN_long : ¬ fits (FN + 1) := by
  unfold fits
  rw [FN_succ]
  have := (pow_le_iff (b := 256) (by omega) FL (256 ^ FL)).1 (Nat.le_refl _)
  have := FL_eq
  omega
theorem FN_pos : 1 ≤ FN := by
  rcases Nat.eq_zero_or_pos FN with h | h
  · have := FN_nd; rw [h, nd_zero, FL_eq] at this; omega
  · exact h
@[irreducible] def FE : Nat := 131071
theorem FE_eq : FE = 131071 := by unfold FE; rfl
theorem FE_int : (FE : Int) = 131071 := by rw [FE_eq]; rfl
theorem FE_int2 : ((FE + 1 : Nat) : Int) = 131072 := by rw [FE_eq]; rfl
@[irreducible] def FP : Nat := 1 * 2 ^ FE
theorem FP_eq : FP = 1 * 2 ^ FE := by unfold FP; rfl
theorem one_bits : nd 2 1 = 1 := nd_unique (b := 2) (k := 0) (by omega) (by decide) (by decide)
theorem FP_fits : fits (1 * 2 ^ FE) := by rw [fits_shift (by omega), one_bits, FE_eq]; exact Nat.le_refl _
theorem FP_long : ¬ fits (1 * 2 ^ (FE + 1)) := by rw [fits_shift (by omega), one_bits, FE_eq]; omega
theorem natS_2 : natS 2 = ⟨#[2]⟩ := natS_one (by omega) (by omega)
theorem fits_1 : fits 1 := fits_of_lt 1 (by decide) (by omega)
theorem fits_2 : fits 2 := fits_of_lt 1 (by decide) (by omega)
theorem L_add (w : World) : Calls Try.prog 34 #[.string (natS FN), .string ⟨#[1]⟩] w (StrPost ⟨#[]⟩ 4 w) := by
  have h := NAdd_c FN 1 w FN_fits fits_1
  rwa [resS_no FN_long, resE_no FN_long, natS_1] at h
theorem L_sum (w : World) :
    Calls Try.prog 36 #[.slice (some ⟨w.heap.size, 0, none⟩) 3 3] (w.alloc (.cells #[.string (natS FN), .string ⟨#[]⟩, .string (natS FN)] 22)) (StrPost ⟨#[]⟩ 4 w) := by
  have hn : ¬ fits (FN + 0 + FN) := fun c => FN_long (fits_le c (by have := FN_pos; omega))
  have h1 := Sum_c (some ⟨w.heap.size, 0, none⟩) 3 [FN, 0, FN] (w.alloc (.cells ([natS FN, natS 0, natS FN].map Value.string).toArray 22)) (by simp) (fun n hn => by
    simp only [List.mem_cons, List.not_mem_nil, or_false] at hn
    rcases hn with rfl | rfl | rfl
    · exact FN_fits
    · unfold fits; rw [nd_zero]; omega
    · exact FN_fits) (strs_new w 22 [natS FN, natS 0, natS FN]) (fun ad e => by cases e; simp)
  have e : [FN, 0, FN].sum = FN + 0 + FN := by simp [Nat.add_assoc]
  rw [e, resS_no hn, resE_no hn, natS_zero] at h1
  exact h1.mono fun _ _ h => alloc_post h
theorem L_sh (w : World) : Calls Try.prog 45 #[.string ⟨#[1]⟩, .int .i64 131071] w (StrPost (natS FP) 0 w) := by
  have h := Shift_all 1 FE w fits_1 (by rw [FE_eq]; omega)
  rwa [resS_ok FP_fits, resE_ok FP_fits, natS_1, FE_int, ← FP_eq] at h
theorem L_sh2 (w : World) : Calls Try.prog 45 #[.string ⟨#[1]⟩, .int .i64 131072] w (StrPost ⟨#[]⟩ 4 w) := by
  have h := Shift_all 1 (FE + 1) w fits_1 (by rw [FE_eq]; omega)
  rwa [resS_no FP_long, resE_no FP_long, natS_1, FE_int2] at h
theorem L_pow (w : World) : Calls Try.prog 47 #[.string ⟨#[2]⟩, .int .i64 131071] w (StrPost (natS FP) 0 w) := by
  have h := Pow_all 2 FE w fits_2 (by rw [FE_eq]; omega)
  rwa [← Nat.one_mul (2 ^ FE), resS_ok FP_fits, resE_ok FP_fits, natS_2, FE_int, ← FP_eq] at h
theorem L_pow2 (w : World) : Calls Try.prog 47 #[.string ⟨#[2]⟩, .int .i64 131072] w (StrPost ⟨#[]⟩ 4 w) := by
  have h := Pow_all 2 (FE + 1) w fits_2 (by rw [FE_eq]; omega)
  rwa [← Nat.one_mul (2 ^ (FE + 1)), resS_no FP_long, resE_no FP_long, natS_2, FE_int2] at h
theorem L_mul (w : World) : Calls Try.prog 41 #[.string (natS FP), .string ⟨#[1]⟩] w (StrPost (natS FP) 0 w) := by
  have hf : fits FP := by rw [FP_eq]; exact FP_fits
  have h := NMul_c FP 1 w hf fits_1
  rwa [Nat.mul_one, resS_ok hf, resE_ok hf, natS_1] at h
theorem L_mul2 (w : World) : Calls Try.prog 41 #[.string (natS FP), .string ⟨#[2]⟩] w (StrPost ⟨#[]⟩ 4 w) := by
  have hf : fits FP := by rw [FP_eq]; exact FP_fits
  have e : FP * 2 = 1 * 2 ^ (FE + 1) := by rw [FP_eq, Nat.pow_succ, Nat.mul_assoc]
  have h := NMul_c FP 2 w hf fits_2
  rwa [e, resS_no FP_long, resE_no FP_long, natS_2] at h
theorem L_len (w : World) : Calls Try.prog 25 #[.string (natS FN)] w (IntPost 131072 0 w) := by
  have h := NLen_c FN w FN_fits
  rwa [FN_bits] at h
theorem L_check (w : World) : Calls Try.prog 21 #[.string (natS FN)] w fun e w' => e = .returned (.int .i64 0) ∧ Below w.heap.size w w' := by
  have h := Check_c (natS FN) w
  rwa [may1 FN_fits] at h
theorem L_check2 (s : ByteArray) (hs : s.size = 16385) (w : World) : Calls Try.prog 21 #[.string s] w fun e w' => e = .returned (.int .i64 2) ∧ Below w.heap.size w w' := by
  have h := Check_c s w
  rwa [may1_no (fun c => by have := c.1; omega)] at h
def fullF (k j : Nat) : Nat := if j < k then 255 else 0
theorem fullF_step (k j : Nat) : (if j = k then 255 else fullF k j) = fullF (k + 1) j := by
  unfold fullF
  by_cases h : j = k
  · subst h; rw [if_pos rfl, if_pos (by omega)]
  · rw [if_neg h]
    by_cases h2 : j < k
    · rw [if_pos h2, if_pos (by omega)]
    · rw [if_neg h2, if_neg (by omega)]
set_option maxRecDepth 1000000 in
set_option maxHeartbeats 2000000 in
theorem NatLong_law (w : World) :
    Calls Try.prog 18 #[] w fun e w' => e = .returned (.bool true) ∧ Below w.heap.size w w' := by
  obtain ⟨i0, hi0, hz0, hz1, hz2⟩ := info_parts (P := Try.prog) (e := 5) (z := .int .u8 0) (size := 1) (bytes := 1) (by kernel_rfl)
  obtain ⟨N, hN⟩ : ∃ N : Nat, N = FL := ⟨_, rfl⟩
  have hN2 : (16384 : Int) = (N : Int) := by rw [hN, FL_eq]; rfl
  have hN3 : N ≤ 16384 := by omega
  have HN := Lib.hid hN
  clear hN
  go_enter Try.func18, Try.ntmps18
  go_wp2_with (at_make; go_loud (refine wpList_make_zero _ rfl _ _ _ rfl 5 i0 _ Try.underlying75 hi0 hz0 hz1 .i64 .i64 _ _ N rfl rfl hN2 hN2 (by rw [hz2]; omega) (by unfold maxLen; omega) ?_))
  clear hN2
  rw [fcells_made]
  have HB0 := Lib.hid (Blk.new w 5 (fcells .u8 (fun _ => 0) N))
  have hbl : Below w.heap.size w (w.alloc (.cells (fcells .u8 (fun _ => 0) N) 5)) := (Below.refl _ _).alloc (Nat.le_refl _) _
  generalize w.alloc (.cells (fcells .u8 (fun _ => 0) N) 5) = w1 at *
  obtain ⟨g, hg⟩ : ∃ g, g = w.heap.size := ⟨_, rfl⟩
  rw [← hg] at HB0 hbl ⊢
  have HG := Lib.hid hg
  clear hg
  go_loopw [2] (fun i wr => ∃ k : Nat, k ≤ N ∧ i = .int .i64 k ∧ Hid (Blk wr g 5 (fcells .u8 (fullF k) N)) ∧ Below g w wr) (fun i _ => N - (intOf i).toNat)
  case atStart => exact ⟨0, Nat.zero_le _, rfl, by rw [fcells_congr (f' := fun _ => 0) (fun j _ => by unfold fullF; rw [if_neg (by omega)])]; exact HB0, hbl⟩
  case round =>
    obtain ⟨k, hk, rfl, hblk, hb⟩ := hrel
    by_cases hlt : k < N
    · have hfz := hblk.out.frozen k
      have hck := hblk.out.cell k
      rw [fcells_get _ _ _ _ hlt] at hck
      go_wp2
      have HB1 := Lib.hid (hblk.out.set_ k (.int .u8 ((255 : Nat) : Int)))
      rw [fcells_set, fcells_congr (f' := fullF (k + 1)) (fun j _ => fullF_step k j)] at HB1
      have hb1 := hb.setCell (p := ⟨g, k, none⟩) (Nat.le_refl _) (.int .u8 ((255 : Nat) : Int))
      go_roundw
      case rel => exact ⟨k + 1, by omega, by go_num, HB1, hb1⟩
      case measure => simp [intOf]; omega
    · obtain rfl : k = N := by omega
      have hcv : (convert 75 22 (.slice (some ⟨g, 0, none⟩) k k)).run Try.prog wr = .ok (.string (natS FN)) wr := by
        have hN := HN.out
        have hl : ((dl 256 FN (nd 256 FN)).reverse.map UInt8.ofNat).length = k := by simp [dl_length, hN, FN_nd]
        have h := run_convert_bytes_back (P := Try.prog) wr 75 22 5 ⟨g, 0, none⟩ k ((dl 256 FN (nd 256 FN)).reverse.map UInt8.ofNat) Try.underlying75 Try.underlying5 Try.underlying22 (fun j hj => by
          rw [add_plain0, hblk.out.cell, fcells_get _ _ _ _ (by rw [← hl]; exact hj)]
          have hj2 : j < k := by rw [← hl]; exact hj
          have e := natS_get FN j (by rw [natS_size, FN_nd, ← hN]; exact hj2)
          rw [ba_get] at e
          simp only [natS_def] at e
          rw [List.getElem_toArray] at e
          rw [e]
          unfold fullF
          rw [if_pos hj2, FN_nd, FN_eq, dgt_full (by omega)])
        rw [hl, ← natS_def] at h
        exact h
      have hsz : (natS FN).size = 16384 := by rw [natS_size, FN_nd, FL_eq]
      have HB := Lib.hid (show Below w.heap.size w wr by rw [← HG.out]; exact hb)
      clear hb hbl hblk hlt hk hN3
      go_wp2_with fail
      refine (L_add _).mono ?_
      rintro e x1 ⟨rfl, hb1⟩
      go_wp2_with fail
      refine (L_sum _).mono ?_
      rintro e x2 ⟨rfl, hb2⟩
      go_wp2_with fail
      refine (L_sh _).mono ?_
      rintro e x3 ⟨rfl, hb3⟩
      go_wp2_with fail
      refine (L_sh2 _).mono ?_
      rintro e x4 ⟨rfl, hb4⟩
      go_wp2_with fail
      refine (L_pow _).mono ?_
      rintro e x5 ⟨rfl, hb5⟩
      go_wp2_with fail
      refine (L_pow2 _).mono ?_
      rintro e x6 ⟨rfl, hb6⟩
      go_wp2_with fail
      refine (L_mul _).mono ?_
      rintro e x7 ⟨rfl, hb7⟩
      go_wp2_with fail
      refine (L_mul2 _).mono ?_
      rintro e x8 ⟨rfl, hb8⟩
      go_wp2_with fail
      refine (L_len _).mono ?_
      rintro e x9 ⟨rfl, hb9⟩
      go_wp2_with fail
      refine (L_check _).mono ?_
      rintro e x10 ⟨rfl, hb10⟩
      go_wp2_with fail
      refine (L_check2 _ (by simp [ByteArray.size_append, hsz]; try rfl) _).mono ?_
      rintro e x11 ⟨rfl, hb11⟩
      go_wp2_with fail
      refine (awake_c _).mono ?_
      rintro e x12 ⟨rfl, hb12⟩
      go_wp2_with fail
      go_ret
      exact ⟨rfl, below_chain HB.out (below_chain hb1 (below_chain hb2 (below_chain hb3 (below_chain hb4 (below_chain hb5 (below_chain hb6 (below_chain hb7 (below_chain hb8 (below_chain hb9 (below_chain hb10 (below_chain hb11 hb12)))))))))))⟩
end Go.Proofs.Ytjcicbnjoffbhaa
