/- Contracts of package nat: Shift. -/
import Derived.Test.YtjkonfopajihdaaDoorN32
set_option linter.unusedSimpArgs false
set_option linter.unusedVariables false
namespace Go.Proofs.YtjkonfopajihdaaDoor
open Go Go.RowKit Nt

theorem nd_mul_pow {a j : Nat} (ha : a ≠ 0) : nd 2 (a * 2 ^ j) = nd 2 a + j := by
  obtain ⟨m, hm⟩ : ∃ m, nd 2 a = m + 1 := ⟨nd 2 a - 1, by
    rcases Nat.eq_zero_or_pos (nd 2 a) with h | h
    · exact absurd ((nd_eq_zero (by omega)).1 h) ha
    · omega⟩
  have h1 := lt_nd (b := 2) (n := a) (by omega)
  have h2 := (pow_le_iff (b := 2) (by omega) m a).2 (by omega)
  rw [hm] at h1
  rw [hm, show m + 1 + j = m + j + 1 by omega]
  refine nd_unique (by omega) ?_ ?_
  · rw [Nat.pow_add]; exact Nat.mul_le_mul_right _ h2
  · rw [show m + j + 1 = m + 1 + j by omega, Nat.pow_add]; exact (Nat.mul_lt_mul_right (Nat.two_pow_pos j)).2 h1
theorem fits_shift {a j : Nat} (ha : a ≠ 0) : fits (a * 2 ^ j) ↔ nd 2 a + j ≤ 131072 := by
  unfold fits
  rw [← bits_le, nd_mul_pow ha]
set_option maxRecDepth 100000 in
theorem NShift_no (s : ByteArray) (k : Int) (w : World) (h : ¬ May s) :
    Calls Tryd.prog 65 #[.string s, .int .i64 k] w (StrPost ⟨#[]⟩ 2 w) := by
  have H := Lib.hid h
  clear h
  go_enter Tryd.func65, Tryd.ntmps65
  go_wp2_with (go_at_call 58; refine (NLen_no _ _ H.out).mono ?_; rintro e w1 ⟨rfl, hb⟩)
  go_ret2
  exact ⟨rfl, hb⟩
set_option maxRecDepth 100000 in
theorem NShift_zero (k : Int) (w : World) :
    Calls Tryd.prog 65 #[.string (natS 0), .int .i64 k] w (StrPost (natS 0) 0 w) := by
  have hf : fits 0 := by unfold fits; rw [nd_zero]; omega
  have hE := natS_empty (n := 0) rfl
  go_enter Tryd.func65, Tryd.ntmps65
  go_wp2_with (go_at_call 58; refine (NLen_c _ _ hf).mono ?_; rintro e w1 ⟨rfl, hb⟩)
  go_ret2
  exact ⟨rfl, hb⟩
set_option maxRecDepth 100000 in
theorem NShift_stay (a : Nat) (w : World) (hf : fits a) (ha : a ≠ 0) :
    Calls Tryd.prog 65 #[.string (natS a), .int .i64 0] w (StrPost (natS a) 0 w) := by
  have hE := natS_full ha
  have hE2 := natS_full2 ha
  go_enter Tryd.func65, Tryd.ntmps65
  go_wp2_with (go_at_call 58; refine (NLen_c _ _ hf).mono ?_; rintro e w1 ⟨rfl, hb⟩)
  go_ret2
  exact ⟨rfl, hb⟩
theorem bits_131072 {a : Nat} (hf : fits a) : nd 2 a ≤ 131072 := (bits_le a 16384).2 hf
set_option maxRecDepth 100000 in
theorem NShift_far (a : Nat) (k : Int) (w : World) (hf : fits a) (ha : a ≠ 0) (hk : k < 0) (hk2 : k ≤ -(nd 2 a : Int)) :
    Calls Tryd.prog 65 #[.string (natS a), .int .i64 k] w (StrPost ⟨#[]⟩ 0 w) := by
  have hE := natS_full ha
  have hE2 := natS_full2 ha
  have hz : (k == 0) = false := by rw [beq_eq_false_iff_ne]; omega
  have hl := bits_131072 hf
  have hw : wrap64 (-(nd 2 a : Int)) = -(nd 2 a : Int) := IntWalk.wrap64_in _ (by omega)
  go_enter Tryd.func65, Tryd.ntmps65
  go_wp2_with (go_at_call 58; refine (NLen_c _ _ hf).mono ?_; rintro e w1 ⟨rfl, hb⟩)
  go_ret2
  exact ⟨rfl, hb⟩
set_option maxRecDepth 100000 in
set_option maxHeartbeats 1000000 in
theorem NShift_down (a j : Nat) (w : World) (hf : fits a) (ha : a ≠ 0) (hj : 0 < j) (hj2 : j < nd 2 a) :
    Calls Tryd.prog 65 #[.string (natS a), .int .i64 (-(j : Int))] w (StrPost (natS (a / 2 ^ j)) 0 w) := by
  have hE := natS_full ha
  have hE2 := natS_full2 ha
  have hl := bits_131072 hf
  obtain ⟨z, hz⟩ : ∃ z : Int, z = -(j : Int) := ⟨_, rfl⟩
  have z1 : (z == 0) = false := by rw [beq_eq_false_iff_ne]; omega
  have z2 : z < 0 := by omega
  have z3 : ¬ z ≤ -(nd 2 a : Int) := by omega
  have hw : wrap64 (-(nd 2 a : Int)) = -(nd 2 a : Int) := IntWalk.wrap64_in _ (by omega)
  have hw2 : wrap64 (-z) = (j : Int) := by rw [IntWalk.wrap64_in _ (by omega)]; omega
  have hfd := fits_le hf (Nat.div_le_self a (2 ^ j))
  have R1 := Lib.hid (resS_ok hfd)
  have R2 := Lib.hid (resE_ok hfd)
  have hwa := Lib.hid (fits_words hf)
  have hwd := Lib.hid (fits_words hfd)
  have HJ := Lib.hid (show j ≤ 1000000000000 by omega)
  rw [← hz]
  clear hz hj hj2 hl ha hfd
  go_enter Tryd.func65, Tryd.ntmps65
  go_upto_region 9 with (go_at_call 58; refine (NLen_c _ _ hf).mono ?_; rintro e w1 ⟨rfl, hb1⟩)
  go_wp2_with fail
  refine (words_c a _ hf).mono ?_
  intro e w2 hp
  obtain ⟨A1, c1, rfl, hc1, hr1, hb2⟩ := hp.get
  have HR1 := Lib.hid hr1
  clear hr1 hp
  go_wp2_with fail
  refine (Shr_c A1 c1 a j w2.heap.size w2 HJ.out (by have := hwa.out; omega) HR1.out (Nat.le_refl _)).mono ?_
  intro e w3 hp
  obtain ⟨A2, c2, rfl, hc2, hr2, hb3⟩ := hp.get
  have HR2 := Lib.hid hr2
  clear hr2 hp
  go_wp2_with fail
  refine (made_c A2 c2 (a / 2 ^ j) w3.heap.size w3 (by have := hwd.out; omega) HR2.out (Nat.le_refl _)).mono ?_
  rintro e w4 ⟨rfl, hb4⟩
  go_wp2_with fail
  go_ret2
  exact ⟨by rw [R1.out, R2.out]; rfl, below_chain hb1 (below_chain hb2 (below_chain hb3 hb4))⟩
@[irreducible] def overB (k : Nat) (l : Nat) : Bool := decide ((131072 : Int) - (l : Int) < (k : Int))
set_option maxRecDepth 100000 in
set_option maxHeartbeats 1000000 in
theorem NShift_long (a j : Nat) (w : World) (hf : fits a) (ha : a ≠ 0) (hj : 0 < j) (hj2 : ¬ fits (a * 2 ^ j)) (hjm : j ≤ 9223372036854775807) :
    Calls Tryd.prog 65 #[.string (natS a), .int .i64 (j : Nat)] w (StrPost ⟨#[]⟩ 4 w) := by
  have hE := natS_full ha
  have hE2 := natS_full2 ha
  have hl := bits_131072 hf
  rw [fits_shift ha] at hj2
  have z1 : ((j : Int) == 0) = false := by rw [beq_eq_false_iff_ne]; omega
  have z2 : ¬ (j : Int) < 0 := by omega
  have hw : wrap64 (131072 - (nd 2 a : Int)) = 131072 - (nd 2 a : Int) := IntWalk.wrap64_in _ (by omega)
  have hT : decide ((131072 : Int) - (nd 2 a : Int) < (j : Int)) = true := decide_eq_true (by omega)
  have hT2 : (131072 : Int) - (nd 2 a : Int) < (j : Int) := by omega
  clear hj2
  go_enter Tryd.func65, Tryd.ntmps65
  go_wp2_with (go_at_call 58; refine (NLen_c _ _ hf).mono ?_; rintro e w1 ⟨rfl, hb1⟩)
  go_ret2
  exact ⟨rfl, hb1⟩
set_option maxRecDepth 100000 in
set_option maxHeartbeats 1000000 in
theorem NShift_up (a j : Nat) (w : World) (hf : fits a) (ha : a ≠ 0) (hj : 0 < j) (hj2 : fits (a * 2 ^ j)) :
    Calls Tryd.prog 65 #[.string (natS a), .int .i64 (j : Nat)] w (StrPost (natS (a * 2 ^ j)) 0 w) := by
  have hE := natS_full ha
  have hE2 := natS_full2 ha
  have hl := bits_131072 hf
  have R1 := Lib.hid (resS_ok hj2)
  have R2 := Lib.hid (resE_ok hj2)
  have hwm := Lib.hid (fits_words hj2)
  have hwa := Lib.hid (fits_words hf)
  rw [fits_shift ha] at hj2
  have hj3 : j ≤ 131072 := by omega
  have z1 : ((j : Int) == 0) = false := by rw [beq_eq_false_iff_ne]; omega
  have z2 : ¬ (j : Int) < 0 := by omega
  have hw : wrap64 (131072 - (nd 2 a : Int)) = 131072 - (nd 2 a : Int) := IntWalk.wrap64_in _ (by omega)
  have hT2 : ¬ (131072 : Int) - (nd 2 a : Int) < (j : Int) := by omega
  have HJ := Lib.hid (show nd W a + j / 64 ≤ 1000000000 by have := hwa.out; omega)
  clear hj2 hj3
  go_enter Tryd.func65, Tryd.ntmps65
  go_upto_region 12 with (go_at_call 58; refine (NLen_c _ _ hf).mono ?_; rintro e w1 ⟨rfl, hb1⟩)
  go_wp2_with fail
  refine (words_c a _ hf).mono ?_
  intro e w2 hp
  obtain ⟨A1, c1, rfl, hc1, hr1, hb2⟩ := hp.get
  have HR1 := Lib.hid hr1
  clear hr1 hp
  go_wp2_with fail
  refine (Shl_c A1 c1 a j w2.heap.size w2 HJ.out HR1.out (Nat.le_refl _)).mono ?_
  intro e w3 hp
  obtain ⟨A2, c2, rfl, hc2, hr2, hb3⟩ := hp.get
  have HR2 := Lib.hid hr2
  clear hr2 hp
  go_wp2_with fail
  refine (made_c A2 c2 (a * 2 ^ j) w3.heap.size w3 (by have := hwm.out; omega) HR2.out (Nat.le_refl _)).mono ?_
  rintro e w4 ⟨rfl, hb4⟩
  go_wp2_with fail
  go_ret2
  exact ⟨by rw [R1.out, R2.out]; rfl, below_chain hb1 (below_chain hb2 (below_chain hb3 hb4))⟩
end Go.Proofs.YtjkonfopajihdaaDoor
