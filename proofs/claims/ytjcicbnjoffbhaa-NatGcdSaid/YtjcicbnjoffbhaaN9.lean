/- Contracts of package limb: Put, Of. -/
import Derived.Test.YtjcicbnjoffbhaaN8
set_option linter.unusedSimpArgs false
set_option linter.unusedVariables false
namespace Go.Proofs.Ytjcicbnjoffbhaa
open Go Go.RowKit Nt

theorem mca_low (x y m i : Nat) : (dgt W x i * y % 18446744073709551616 + mca W x y m i + 0) % 18446744073709551616 = dgt W (x * y + m) i := by
  rw [Nat.add_zero, two_mod, dgt_mca W0, W_eq]
theorem mca_high (x y m i : Nat) : dgt W x i * y / 18446744073709551616 + (dgt W x i * y % 18446744073709551616 + mca W x y m i + 0) / 18446744073709551616 = mca W x y m (i + 1) := by
  rw [Nat.add_zero, two_div (by omega), mca_succ W0, W_eq]
theorem wadd_nat {a b c : Nat} (h : a + b = c) (hc : c < 18446744073709551616) : IntKind.u64.wrap ((a : Int) + (b : Int)) = (c : Int) := by
  rw [IntKind.wrap_u64, ← Int.natCast_add, h, Int.emod_eq_of_lt (by omega) (by omega)]
set_option maxHeartbeats 1000000 in
theorem Put_c (A : Option Addr) (c x y m B : Nat) (w : World) (hy : y < 18446744073709551616) (hm : m < 18446744073709551616) (hL : nd W x ≤ 1000000000) (hr : Row w B A x (nd W x)) (hBs : B ≤ w.heap.size) :
    Calls Try.prog 88 #[.slice A (nd W x) c, .int .u64 (y : Nat), .int .u64 (m : Nat)] w (NumPost (x * y + m) w) := by
  obtain ⟨i0, hi0, hz0, hz1, hz2⟩ := info_parts (P := Try.prog) (e := 23) (z := .int .u64 0) (size := 1) (bytes := 8) (by kernel_rfl)
  have HR := Lib.hid hr
  have HA := Lib.hid (lt_nd (n := x) W2)
  clear hr
  go_enter Try.func88, Try.ntmps88
  go_wp2_with (at_make; go_loud (refine wpList_make_zero _ rfl (.tmp 15) (.tmp 15) _ rfl 23 i0 _ Try.underlying86 hi0 hz0 hz1 .i64 .i64 _ _ (nd W x + 1) rfl rfl (by omega) (by omega) (by rw [hz2]; omega) (by unfold maxLen; omega) ?_))
  rw [wcells_made]
  have HB0 := Lib.hid (Blk.new w 23 (wcells 0 (nd W x + 1)))
  have hbl : Below w.heap.size w (w.alloc (.cells (wcells 0 (nd W x + 1)) 23)) := (Below.refl _ _).alloc (Nat.le_refl _) _
  generalize w.alloc (.cells (wcells 0 (nd W x + 1)) 23) = w1 at *
  obtain ⟨g, hg⟩ : ∃ g, g = w.heap.size := ⟨_, rfl⟩
  rw [← hg] at HB0 hbl hBs ⊢
  have HG := Lib.hid hg
  clear hg
  go_loopw [2, 19] (fun cy i wr => ∃ k : Nat, k ≤ nd W x ∧ i = .int .i64 k ∧ cy = .int .u64 (mca W x y m k : Nat) ∧ Hid (Blk wr g 23 (wcells ((x * y + m) % W ^ k) (nd W x + 1))) ∧ Below g w wr) (fun _ i _ => nd W x - (intOf i).toNat)
  case atStart => exact ⟨0, Nat.zero_le _, rfl, by rw [mca_zero], by rw [mod_one]; exact HB0, hbl⟩
  case round =>
    obtain ⟨k, hk, rfl, rfl, hblk, hb⟩ := hrel
    have hy' : y < W := by rw [W_eq]; exact hy
    have hm' : m < W := by rw [W_eq]; exact hm
    by_cases hlt : k < nd W x
    · obtain ⟨ga, rfl, hga, hca⟩ := HR.out.at_ hlt
      have hca2 := (hb.cell (p := ⟨ga, k, none⟩) (by show ga < g; omega)).trans hca
      have hfz := hblk.out.frozen k
      have hck := hblk.out.cell k
      rw [wcells_get _ _ _ (by omega)] at hck
      have hc1 : mca W x y m (k + 1) < 18446744073709551616 := Nat.lt_of_lt_of_eq (mca_lt W0 x y m (k + 1) hy' hm') W_eq
      have hadd : ∀ w, (callFunc 95 #[.int .u64 (dgt W x k * y % 18446744073709551616 : Nat), .int .u64 (mca W x y m k : Nat), .int .u64 0]).run Try.prog w = .ok (.value (.tuple #[.int .u64 (dgt W (x * y + m) k : Nat), .int .u64 ((dgt W x k * y % 18446744073709551616 + mca W x y m k + 0) / 18446744073709551616 : Nat)])) w := fun w => by
        have h := Try.bits_Add64 (dgt W x k * y % 18446744073709551616) (mca W x y m k) 0 (by omega) w
        rw [mca_low] at h
        exact h
      have hcar : IntKind.u64.wrap (((dgt W x k * y / 18446744073709551616 : Nat) : Int) + (((dgt W x k * y % 18446744073709551616 + mca W x y m k + 0) / 18446744073709551616 : Nat) : Int)) = ((mca W x y m (k + 1) : Nat) : Int) := wadd_nat (mca_high x y m k) hc1
      have hmul := Try.bits_Mul64 (dgt W x k) y (wd_lt _ _) hy
      have HB1 := Lib.hid (hblk.out.set_ k (.int .u64 (dgt W (x * y + m) k : Nat)))
      rw [wcells_set _ _ _ _ (wd_lt _ _), put_sum] at HB1
      have hb1 := hb.setCell (p := ⟨g, k, none⟩) (Nat.le_refl _) (.int .u64 (dgt W (x * y + m) k : Nat))
      clear hca
      generalize dgt W x k * y / 18446744073709551616 = hi at *
      generalize (dgt W x k * y % 18446744073709551616 + mca W x y m k + 0) / 18446744073709551616 = c1 at *
      generalize dgt W x k * y % 18446744073709551616 = lo at *
      have HM := Lib.hid hmul
      clear hmul hc1 hy' hm'
      go_wp2_with (first | simp only [hadd] | (go_at_call 75; refine (HM.out _).mono ?_; rintro e w' ⟨rfl, rfl⟩))
      go_roundw
      case rel => exact ⟨k + 1, by omega, by go_num, rfl, HB1, hb1⟩
      case measure => simp [intOf]; omega
    · obtain rfl : k = nd W x := by omega
      have hfz := hblk.out.frozen (nd W x)
      have hck := hblk.out.cell (nd W x)
      rw [wcells_get _ _ _ (by omega)] at hck
      rw [mca_last W2 x y m _ HA.out hy' hm']
      have hs : x * y + m < W ^ (nd W x + 1) := by
        have h1 := HA.out
        rw [Nat.pow_succ]
        have h2 : (x + 1) * (y + 1) ≤ W ^ nd W x * W := Nat.mul_le_mul h1 hy'
        have h3 : x * (y + 1) ≤ x * W := Nat.mul_le_mul_left _ hy'
        have h4 : (x + 1) * W ≤ W ^ nd W x * W := Nat.mul_le_mul_right _ h1
        rw [Nat.add_mul] at h4
        have h5 : x * y ≤ x * W := Nat.mul_le_mul_left _ (by omega)
        omega
      have HB1 := hblk.out.set_ (nd W x) (.int .u64 (dgt W (x * y + m) (nd W x) : Nat))
      rw [wcells_set _ _ _ _ (wd_lt _ _), put_sum, Nat.mod_eq_of_lt hs] at HB1
      have HB1' := Lib.hid HB1
      have hb1 := hb.setCell (p := ⟨g, nd W x, none⟩) (Nat.le_refl _) (.int .u64 (dgt W (x * y + m) (nd W x) : Nat))
      have HS := Lib.hid hs
      clear HB1 hs hy' hm'
      go_wp2_with fail
      refine (Cut_c (some ⟨g, 0, none⟩) (nd W x + 1) (nd W x + 1) (x * y + m) (g + 1) _ HS.out (Nat.le_refl _) (by omega) (Row.of_blk HB1'.out (by omega))).mono ?_
      rintro e w' ⟨rfl, rfl⟩
      go_wp2
      go_ret
      have hnd := nd_le W2 HS.out
      exact NumPost.mk hnd ((Row.of_blk HB1'.out HB1'.out.lt).less hnd) (by rw [← HG.out]; exact hb1)
end Go.Proofs.Ytjcicbnjoffbhaa
