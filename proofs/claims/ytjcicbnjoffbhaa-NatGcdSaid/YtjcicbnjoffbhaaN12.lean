/- Contracts of package limb: Of, Take. -/
import Derived.Test.YtjcicbnjoffbhaaN11
set_option linter.unusedSimpArgs false
set_option linter.unusedVariables false
namespace Go.Proofs.Ytjcicbnjoffbhaa
open Go Go.RowKit Nt

theorem below_drewN {B : Nat} {a w : World} (h : Below B a w) (n : Nat) : Below B a (w.drewN n) := ⟨h.os, h.tape, h.output, h.size, h.block⟩
@[irreducible] def rst (x y k : Nat) : Nat := x / W ^ k % y
theorem rst_def (x y k : Nat) : rst x y k = x / W ^ k % y := by unfold rst; rfl
/-- The quotient, from the digit k on. -/
def hiV (q k : Nat) : Nat := W ^ k * (q / W ^ k)
theorem hiV_put (q m : Nat) : put W (hiV q (m + 1)) m (dgt W q m) = hiV q m := by
  unfold hiV
  have h0 : dgt W (W ^ (m + 1) * (q / W ^ (m + 1))) m = 0 := by
    have := dgt_add_mul (b := W) W0 0 (q / W ^ (m + 1)) (i := m) (L := m + 1) (by omega)
    rw [Nat.zero_add] at this
    rw [this, dgt_def]; simp
  rw [put_new _ _ _ W0 h0, div_eq_dgt W0 q m, Nat.mul_add, Nat.pow_succ, Nat.mul_assoc, Nat.add_comm]
theorem hiV_zero (q : Nat) : hiV q 0 = q := by unfold hiV; rw [Nat.pow_zero, Nat.one_mul, Nat.div_one]
theorem hiV_top {q L : Nat} (h : q < W ^ L) : hiV q L = 0 := by unfold hiV; rw [Nat.div_eq_of_lt h, Nat.mul_zero]
theorem Of_c (n : Nat) (w : World) (hn : n < 18446744073709551616) :
    Calls Try.prog 97 #[.int .u64 (n : Nat)] w (NumPost n w) := by
  have hs : n < W ^ 1 := by rw [Nat.pow_one, W_eq]; exact hn
  have hcell : (#[.int .u64 (n : Nat)] : Array Value) = wcells n 1 := by
    unfold wcells dl
    have e : dgt W n 0 = n := by rw [dgt_def, Nat.pow_zero, Nat.div_one, Nat.mod_eq_of_lt (by rw [W_eq]; exact hn)]
    simp [List.range_succ, e]
  have HS := Lib.hid hs
  have HC := Lib.hid hcell
  clear hs hcell
  go_enter Try.func97, Try.ntmps97
  go_wp2_with fail
  have HB0 := Lib.hid (Blk.new w 23 (wcells n 1))
  have hbl : Below w.heap.size w (w.alloc (.cells (wcells n 1) 23)) := (Below.refl _ _).alloc (Nat.le_refl _) _
  rw [HC.out]
  generalize w.alloc (.cells (wcells n 1) 23) = w1 at *
  obtain ⟨g, hg⟩ : ∃ g, g = w.heap.size := ⟨_, rfl⟩
  rw [← hg] at HB0 hbl ⊢
  have HG := Lib.hid hg
  clear hg
  refine (Cut_c (some ⟨g, 0, none⟩) 1 1 n (g + 1) _ HS.out (Nat.le_refl _) (by omega) (Row.of_blk HB0.out (by omega))).mono ?_
  rintro e w' ⟨rfl, rfl⟩
  go_wp2
  go_ret
  have hnd := nd_le W2 HS.out
  exact NumPost.mk hnd ((Row.of_blk HB0.out HB0.out.lt).less hnd) (by rw [← HG.out]; exact hbl)
set_option maxHeartbeats 1000000 in
theorem Take_c (A : Option Addr) (c x y B : Nat) (w : World) (hy0 : y ≠ 0) (hy : y < 18446744073709551616) (hL : nd W x ≤ 1000000000) (hr : Row w B A x (nd W x)) (hBs : B ≤ w.heap.size) :
    Calls Try.prog 86 #[.slice A (nd W x) c, .int .u64 (y : Nat)] w fun e w' => ∃ A' c', e = .returned (.tuple #[.slice A' (nd W (x / y)) c', .int .u64 (x % y : Nat)]) ∧ A' = some ⟨w.heap.size, 0, none⟩ ∧ w.heap.size < w'.heap.size ∧ nd W (x / y) ≤ c' ∧ Row w' w'.heap.size A' (x / y) (nd W (x / y)) ∧ Below w.heap.size w w' := by
  obtain ⟨i0, hi0, hz0, hz1, hz2⟩ := info_parts (P := Try.prog) (e := 23) (z := .int .u64 0) (size := 1) (bytes := 8) (by kernel_rfl)
  have HR := Lib.hid hr
  have HA := Lib.hid (lt_nd (n := x) W2)
  have HQ := Lib.hid (Nat.lt_of_le_of_lt (Nat.div_le_self x y) (lt_nd (n := x) W2))
  have hw : wrap64 ((nd W x : Int) - 1) = (nd W x : Int) - 1 := IntWalk.wrap64_in _ (by omega)
  clear hr
  go_enter Try.func86, Try.ntmps86
  go_wp2_with (at_make; go_loud (refine wpList_make_zero _ rfl (.tmp 10) (.tmp 10) _ rfl 23 i0 _ Try.underlying86 hi0 hz0 hz1 .i64 .i64 _ _ (nd W x) rfl rfl rfl rfl (by rw [hz2]; omega) (by unfold maxLen; omega) ?_))
  rw [wcells_made]
  have HB0 := Lib.hid (Blk.new w 23 (wcells 0 (nd W x)))
  have hbl : Below w.heap.size w (w.alloc (.cells (wcells 0 (nd W x)) 23)) := (Below.refl _ _).alloc (Nat.le_refl _) _
  generalize w.alloc (.cells (wcells 0 (nd W x)) 23) = w1 at *
  obtain ⟨g, hg⟩ : ∃ g, g = w.heap.size := ⟨_, rfl⟩
  rw [← hg] at HB0 hbl hBs ⊢
  have HG := Lib.hid hg
  clear hg
  go_loopw [7, 8] (fun ρ i wr => ∃ (k : Nat) (z : Int), k ≤ nd W x ∧ i = .int .i64 z ∧ Hid (z = (k : Int) - 1) ∧ ρ = .int .u64 (rst x y k : Nat) ∧ Hid (Blk wr g 23 (wcells (hiV (x / y) k) (nd W x))) ∧ Below g w wr) (fun _ i _ => (intOf i + 1).toNat)
  case atStart => exact ⟨nd W x, _, Nat.le_refl _, rfl, Lib.hid rfl, by rw [rst_def, Nat.div_eq_of_lt HA.out, Nat.zero_mod]; rfl, by rw [hiV_top HQ.out]; exact HB0, hbl⟩
  case round =>
    obtain ⟨k, z, hk, rfl, hz, rfl, hblk, hb⟩ := hrel
    by_cases h0 : k = 0
    · subst h0
      obtain rfl : z = -1 := by have := hz.out; omega
      have HB1 := hblk.out
      rw [hiV_zero] at HB1
      have HB1' := Lib.hid HB1
      clear HB1
      go_wp2_with fail
      refine (Cut_c (some ⟨g, 0, none⟩) (nd W x) (nd W x) (x / y) (g + 1) _ HQ.out (Nat.le_refl _) (by omega) (Row.of_blk HB1'.out (by omega))).mono ?_
      rintro e w' ⟨rfl, rfl⟩
      go_wp2
      go_ret2
      have hnd := nd_le W2 HQ.out
      refine ⟨_, _, ?_, by rw [← HG.out], by rw [← HG.out]; exact HB1'.out.lt, hnd, (Row.of_blk HB1'.out HB1'.out.lt).less hnd, by rw [← HG.out]; exact hb⟩
      have e : rst x y 0 = x % y := by rw [rst_def, Nat.pow_zero, Nat.div_one]
      rw [← e]; rfl
    · obtain ⟨m, rfl⟩ : ∃ m, k = m + 1 := ⟨k - 1, by omega⟩
      obtain rfl : z = (m : Int) := by have := hz.out; omega
      obtain ⟨ga, rfl, hga, hca⟩ := HR.out.at_ (k := m) (by omega)
      have hca2 := (hb.cell (p := ⟨ga, m, none⟩) (by show ga < g; omega)).trans hca
      have hmL : m < nd W x := by omega
      have hw' : wrap64 ((m : Int) - 1) = (m : Int) - 1 := IntWalk.wrap64_in _ (by omega)
      have hdiv : ∀ w, Calls Try.prog 106 #[.int .u64 (rst x y (m + 1) : Nat), .int .u64 (dgt W x m : Nat), .int .u64 (y : Nat)] w fun e w' => e = .returned (.tuple #[.int .u64 (dgt W (x / y) m : Nat), .int .u64 (rst x y m : Nat)]) ∧ ∃ n, w' = w.drewN n := fun w => by
        refine (Div64_c _ _ _ _ (by rw [rst_def]; exact Nat.mod_lt _ (by omega)) hy (wd_lt _ _)).mono ?_
        rintro e w' ⟨rfl, h⟩
        refine ⟨?_, h⟩
        rw [rst_def, rst_def, ← take_quo W0 x y m (by omega), ← take_rest W0 x y m, W_eq]
      have HD := Lib.hid hdiv
      clear hdiv hca
      go_wp2_with (go_at_call 106; refine (HD.out _).mono ?_; rintro e w' ⟨rfl, nn, rfl⟩; have hfz := (hblk.out.drewN nn).frozen m; have hck := (hblk.out.drewN nn).cell m; rw [wcells_get _ _ _ hmL] at hck)
      have HB1 := Lib.hid ((hblk.out.drewN nn).set_ m (.int .u64 (dgt W (x / y) m : Nat)))
      rw [wcells_set _ _ _ _ (wd_lt _ _), hiV_put] at HB1
      have hb1 := (below_drewN hb nn).setCell (p := ⟨g, m, none⟩) (Nat.le_refl _) (.int .u64 (dgt W (x / y) m : Nat))
      go_roundw
      case rel => exact ⟨m, _, by omega, rfl, Lib.hid rfl, rfl, HB1, hb1⟩
      case measure => simp [intOf]
end Go.Proofs.Ytjcicbnjoffbhaa
