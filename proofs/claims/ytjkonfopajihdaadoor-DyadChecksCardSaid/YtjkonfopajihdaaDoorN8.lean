/- Contracts of package limb: Add, Sub. -/
import Derived.Test.YtjkonfopajihdaaDoorN7
import Derived.Deep.RegionHeld3
import Derived.Deep.RegionWith
set_option linter.unusedSimpArgs false
set_option linter.unusedVariables false
namespace Go.Proofs.YtjkonfopajihdaaDoor
open Go Go.RowKit Nt

theorem add_word (x y i : Nat) : (dgt W x i + dgt W y i + car W x y i) % 18446744073709551616 = dgt W (x + y) i := by rw [dgt_add W0, W_eq]
theorem add_carry (x y i : Nat) : (dgt W x i + dgt W y i + car W x y i) / 18446744073709551616 = car W x y (i + 1) := by rw [car_succ W0, W_eq]
/-- The sum, when i words of it stand. -/
theorem put_sum (s i : Nat) : put W (s % W ^ i) i (dgt W s i) = s % W ^ (i + 1) := put_mod W2 s i
theorem mod_one (s : Nat) : s % W ^ 0 = 0 := by rw [Nat.pow_zero, Nat.mod_one]
set_option maxHeartbeats 1000000 in
/-- The loop of Add, where a has no fewer words. -/
theorem Add_ge (A A' : Option Addr) (c c' a b B : Nat) (w : World) (hL : nd W a ≤ 1000000000) (hL' : nd W b ≤ nd W a) (hr : Row w B A a (nd W a)) (hr' : Row w B A' b (nd W b)) (hBs : B ≤ w.heap.size) :
    Calls Tryd.prog 83 #[.slice A (nd W a) c, .slice A' (nd W b) c'] w (NumPost (a + b) w) := by
  obtain ⟨i0, hi0, hz0, hz1, hz2⟩ := info_parts (P := Tryd.prog) (e := 80) (z := .int .u64 0) (size := 1) (bytes := 8) (by kernel_rfl)
  have HR := Lib.hid hr
  have HR' := Lib.hid hr'
  have HA := Lib.hid (lt_nd (n := a) W2)
  have HB := Lib.hid (lt_nd (n := b) W2)
  clear hr hr'
  have hn : ¬ nd W a < nd W b := by omega
  go_enter Tryd.func83, Tryd.ntmps83
  go_wp2_with (at_make; go_loud (refine wpList_make_zero _ rfl (.tmp 19) (.tmp 19) _ rfl 80 i0 _ Tryd.underlying100 hi0 hz0 hz1 .i64 .i64 _ _ (nd W a + 1) rfl rfl (by omega) (by omega) (by rw [hz2]; omega) (by unfold maxLen; omega) ?_))
  rw [wcells_made]
  have HB0 := Lib.hid (Blk.new w 80 (wcells 0 (nd W a + 1)))
  have hbl : Below w.heap.size w (w.alloc (.cells (wcells 0 (nd W a + 1)) 80)) := (Below.refl _ _).alloc (Nat.le_refl _) _
  generalize w.alloc (.cells (wcells 0 (nd W a + 1)) 80) = w1 at *
  obtain ⟨g, hg⟩ : ∃ g, g = w.heap.size := ⟨_, rfl⟩
  rw [← hg] at HB0 hbl hBs ⊢
  have HG := Lib.hid hg
  clear hg
  go_loopw [6, 23] (fun cy i wr => ∃ k : Nat, k ≤ nd W a ∧ i = .int .i64 k ∧ cy = .int .u64 (car W a b k : Nat) ∧ Hid (Blk wr g 80 (wcells ((a + b) % W ^ k) (nd W a + 1))) ∧ Below g w wr) (fun _ i _ => nd W a - (intOf i).toNat)
  case atStart => exact ⟨0, Nat.zero_le _, rfl, by rw [car_zero]; rfl, by rw [mod_one]; exact HB0, hbl⟩
  case round =>
    obtain ⟨k, hk, rfl, rfl, hblk, hb⟩ := hrel
    by_cases hlt : k < nd W a
    · obtain ⟨ga, rfl, hga, hca⟩ := HR.out.at_ hlt
      have hca2 := (hb.cell (p := ⟨ga, k, none⟩) (by show ga < g; omega)).trans hca
      have hfz := hblk.out.frozen k
      have hck := hblk.out.cell k
      rw [wcells_get _ _ _ (by omega)] at hck
      have hc1 := car_le W0 a b k
      clear hca
      by_cases hlt' : k < nd W b
      · obtain ⟨gb, rfl, hgb, hcb⟩ := HR'.out.at_ hlt'
        have hcb2 := (hb.cell (p := ⟨gb, k, none⟩) (by show gb < g; omega)).trans hcb
        clear hcb
        have hadd : ∀ w, (callFunc 120 #[.int .u64 (dgt W a k : Nat), .int .u64 (dgt W b k : Nat), .int .u64 (car W a b k : Nat)]).run Tryd.prog w = .ok (.value (.tuple #[.int .u64 (dgt W (a + b) k : Nat), .int .u64 (car W a b (k + 1) : Nat)])) w := fun w => by
          rw [Tryd.bits_Add64 _ _ _ hc1 w, add_word, add_carry]
        have HS := Lib.hid hblk
        have HB1 := Lib.hid (hblk.out.set_ k (.int .u64 (dgt W (a + b) k : Nat)))
        rw [wcells_set _ _ _ _ (wd_lt _ _), put_sum] at HB1
        have hb1 := hb.setCell (p := ⟨g, k, none⟩) (Nat.le_refl _) (.int .u64 (dgt W (a + b) k : Nat))
        go_wp2_with (simp only [hadd])
        go_roundw
        case rel => exact ⟨k + 1, by omega, by go_num, rfl, HB1, hb1⟩
        case measure => simp [intOf]; omega
      · have hadd : ∀ w, (callFunc 120 #[.int .u64 (dgt W a k : Nat), .int .u64 0, .int .u64 (car W a b k : Nat)]).run Tryd.prog w = .ok (.value (.tuple #[.int .u64 (dgt W (a + b) k : Nat), .int .u64 (car W a b (k + 1) : Nat)])) w := fun w => by
          have h := Tryd.bits_Add64 (dgt W a k) (dgt W b k) _ hc1 w
          rw [add_word, add_carry] at h
          have e : dgt W b k = 0 := dgt_big W2 (by omega)
          rw [e] at h
          exact h
        have HB1 := Lib.hid (hblk.out.set_ k (.int .u64 (dgt W (a + b) k : Nat)))
        rw [wcells_set _ _ _ _ (wd_lt _ _), put_sum] at HB1
        have hb1 := hb.setCell (p := ⟨g, k, none⟩) (Nat.le_refl _) (.int .u64 (dgt W (a + b) k : Nat))
        go_wp2_with (simp only [hadd])
        go_roundw
        case rel => exact ⟨k + 1, by omega, by go_num, rfl, HB1, hb1⟩
        case measure => simp [intOf]; omega
    · obtain rfl : k = nd W a := by omega
      have hfz := hblk.out.frozen (nd W a)
      have hck := hblk.out.cell (nd W a)
      rw [wcells_get _ _ _ (by omega)] at hck
      have hB' : b < W ^ nd W a := (lt_pow_iff W2 _ _).2 hL'
      rw [car_last W2 a b _ HA.out hB']
      have hs : a + b < W ^ (nd W a + 1) := by
        have h1 := HA.out
        rw [Nat.pow_succ]
        have h2 : 2 * W ^ nd W a ≤ W ^ nd W a * W := by rw [Nat.mul_comm]; exact Nat.mul_le_mul_left _ W2
        omega
      have HB1 := hblk.out.set_ (nd W a) (.int .u64 (dgt W (a + b) (nd W a) : Nat))
      rw [wcells_set _ _ _ _ (wd_lt _ _), put_sum, Nat.mod_eq_of_lt hs] at HB1
      have HB1' := Lib.hid HB1
      have hb1 := hb.setCell (p := ⟨g, nd W a, none⟩) (Nat.le_refl _) (.int .u64 (dgt W (a + b) (nd W a) : Nat))
      have HS := Lib.hid hs
      clear HB1 hs hB'
      go_wp2_with fail
      refine (Cut_c (some ⟨g, 0, none⟩) (nd W a + 1) (nd W a + 1) (a + b) (g + 1) _ HS.out (Nat.le_refl _) (by omega) (Row.of_blk HB1'.out (by omega))).mono ?_
      rintro e w' ⟨rfl, rfl⟩
      go_wp2
      go_ret
      have hnd := nd_le W2 HS.out
      exact NumPost.mk hnd ((Row.of_blk HB1'.out HB1'.out.lt).less hnd) (by rw [← HG.out]; exact hb1)
set_option maxHeartbeats 1000000 in
/-- The same, handed in the other way round. -/
theorem Add_lt (A A' : Option Addr) (c c' a b B : Nat) (w : World) (hL : nd W a ≤ 1000000000) (hL' : nd W b < nd W a) (hr : Row w B A a (nd W a)) (hr' : Row w B A' b (nd W b)) (hBs : B ≤ w.heap.size) :
    Calls Tryd.prog 83 #[.slice A' (nd W b) c', .slice A (nd W a) c] w (NumPost (a + b) w) := by
  obtain ⟨i0, hi0, hz0, hz1, hz2⟩ := info_parts (P := Tryd.prog) (e := 80) (z := .int .u64 0) (size := 1) (bytes := 8) (by kernel_rfl)
  have HR := Lib.hid hr
  have HR' := Lib.hid hr'
  have HA := Lib.hid (lt_nd (n := a) W2)
  have HB := Lib.hid (lt_nd (n := b) W2)
  clear hr hr'
  have hn : nd W b < nd W a := by omega
  go_enter Tryd.func83, Tryd.ntmps83
  go_wp2_with (at_make; go_loud (refine wpList_make_zero _ rfl (.tmp 19) (.tmp 19) _ rfl 80 i0 _ Tryd.underlying100 hi0 hz0 hz1 .i64 .i64 _ _ (nd W a + 1) rfl rfl (by omega) (by omega) (by rw [hz2]; omega) (by unfold maxLen; omega) ?_))
  rw [wcells_made]
  have HB0 := Lib.hid (Blk.new w 80 (wcells 0 (nd W a + 1)))
  have hbl : Below w.heap.size w (w.alloc (.cells (wcells 0 (nd W a + 1)) 80)) := (Below.refl _ _).alloc (Nat.le_refl _) _
  generalize w.alloc (.cells (wcells 0 (nd W a + 1)) 80) = w1 at *
  obtain ⟨g, hg⟩ : ∃ g, g = w.heap.size := ⟨_, rfl⟩
  rw [← hg] at HB0 hbl hBs ⊢
  have HG := Lib.hid hg
  clear hg
  go_loopw [6, 23] (fun cy i wr => ∃ k : Nat, k ≤ nd W a ∧ i = .int .i64 k ∧ cy = .int .u64 (car W a b k : Nat) ∧ Hid (Blk wr g 80 (wcells ((a + b) % W ^ k) (nd W a + 1))) ∧ Below g w wr) (fun _ i _ => nd W a - (intOf i).toNat)
  case atStart => exact ⟨0, Nat.zero_le _, rfl, by rw [car_zero]; rfl, by rw [mod_one]; exact HB0, hbl⟩
  case round =>
    obtain ⟨k, hk, rfl, rfl, hblk, hb⟩ := hrel
    by_cases hlt : k < nd W a
    · obtain ⟨ga, rfl, hga, hca⟩ := HR.out.at_ hlt
      have hca2 := (hb.cell (p := ⟨ga, k, none⟩) (by show ga < g; omega)).trans hca
      have hfz := hblk.out.frozen k
      have hck := hblk.out.cell k
      rw [wcells_get _ _ _ (by omega)] at hck
      have hc1 := car_le W0 a b k
      clear hca
      by_cases hlt' : k < nd W b
      · obtain ⟨gb, rfl, hgb, hcb⟩ := HR'.out.at_ hlt'
        have hcb2 := (hb.cell (p := ⟨gb, k, none⟩) (by show gb < g; omega)).trans hcb
        clear hcb
        have hadd : ∀ w, (callFunc 120 #[.int .u64 (dgt W a k : Nat), .int .u64 (dgt W b k : Nat), .int .u64 (car W a b k : Nat)]).run Tryd.prog w = .ok (.value (.tuple #[.int .u64 (dgt W (a + b) k : Nat), .int .u64 (car W a b (k + 1) : Nat)])) w := fun w => by
          rw [Tryd.bits_Add64 _ _ _ hc1 w, add_word, add_carry]
        have HS := Lib.hid hblk
        have HB1 := Lib.hid (hblk.out.set_ k (.int .u64 (dgt W (a + b) k : Nat)))
        rw [wcells_set _ _ _ _ (wd_lt _ _), put_sum] at HB1
        have hb1 := hb.setCell (p := ⟨g, k, none⟩) (Nat.le_refl _) (.int .u64 (dgt W (a + b) k : Nat))
        go_wp2_with (simp only [hadd])
        go_roundw
        case rel => exact ⟨k + 1, by omega, by go_num, rfl, HB1, hb1⟩
        case measure => simp [intOf]; omega
      · have hadd : ∀ w, (callFunc 120 #[.int .u64 (dgt W a k : Nat), .int .u64 0, .int .u64 (car W a b k : Nat)]).run Tryd.prog w = .ok (.value (.tuple #[.int .u64 (dgt W (a + b) k : Nat), .int .u64 (car W a b (k + 1) : Nat)])) w := fun w => by
          have h := Tryd.bits_Add64 (dgt W a k) (dgt W b k) _ hc1 w
          rw [add_word, add_carry] at h
          have e : dgt W b k = 0 := dgt_big W2 (by omega)
          rw [e] at h
          exact h
        have HB1 := Lib.hid (hblk.out.set_ k (.int .u64 (dgt W (a + b) k : Nat)))
        rw [wcells_set _ _ _ _ (wd_lt _ _), put_sum] at HB1
        have hb1 := hb.setCell (p := ⟨g, k, none⟩) (Nat.le_refl _) (.int .u64 (dgt W (a + b) k : Nat))
        go_wp2_with (simp only [hadd])
        go_roundw
        case rel => exact ⟨k + 1, by omega, by go_num, rfl, HB1, hb1⟩
        case measure => simp [intOf]; omega
    · obtain rfl : k = nd W a := by omega
      have hfz := hblk.out.frozen (nd W a)
      have hck := hblk.out.cell (nd W a)
      rw [wcells_get _ _ _ (by omega)] at hck
      have hB' : b < W ^ nd W a := (lt_pow_iff W2 _ _).2 (by omega)
      rw [car_last W2 a b _ HA.out hB']
      have hs : a + b < W ^ (nd W a + 1) := by
        have h1 := HA.out
        rw [Nat.pow_succ]
        have h2 : 2 * W ^ nd W a ≤ W ^ nd W a * W := by rw [Nat.mul_comm]; exact Nat.mul_le_mul_left _ W2
        omega
      have HB1 := hblk.out.set_ (nd W a) (.int .u64 (dgt W (a + b) (nd W a) : Nat))
      rw [wcells_set _ _ _ _ (wd_lt _ _), put_sum, Nat.mod_eq_of_lt hs] at HB1
      have HB1' := Lib.hid HB1
      have hb1 := hb.setCell (p := ⟨g, nd W a, none⟩) (Nat.le_refl _) (.int .u64 (dgt W (a + b) (nd W a) : Nat))
      have HS := Lib.hid hs
      clear HB1 hs hB'
      go_wp2_with fail
      refine (Cut_c (some ⟨g, 0, none⟩) (nd W a + 1) (nd W a + 1) (a + b) (g + 1) _ HS.out (Nat.le_refl _) (by omega) (Row.of_blk HB1'.out (by omega))).mono ?_
      rintro e w' ⟨rfl, rfl⟩
      go_wp2
      go_ret
      have hnd := nd_le W2 HS.out
      exact NumPost.mk hnd ((Row.of_blk HB1'.out HB1'.out.lt).less hnd) (by rw [← HG.out]; exact hb1)
theorem Add_c (A A' : Option Addr) (c c' a b B : Nat) (w : World) (hL : nd W a ≤ 1000000000) (hL' : nd W b ≤ 1000000000) (hr : Row w B A a (nd W a)) (hr' : Row w B A' b (nd W b)) (hBs : B ≤ w.heap.size) :
    Calls Tryd.prog 83 #[.slice A (nd W a) c, .slice A' (nd W b) c'] w (NumPost (a + b) w) := by
  rcases Nat.lt_or_ge (nd W a) (nd W b) with h | h
  · rw [Nat.add_comm]; exact Add_lt A' A c' c b a B w hL' h hr' hr hBs
  · exact Add_ge A A' c c' a b B w hL h hr hr' hBs
theorem sub_word (x y i : Nat) (h : y ≤ x) : (dgt W x i + 18446744073709551616 - dgt W y i - bor W x y i) % 18446744073709551616 = dgt W (x - y) i := by rw [dgt_sub W2 _ _ _ h, W_eq]
theorem sub_borrow (x y i : Nat) : (if dgt W x i < dgt W y i + bor W x y i then 1 else 0) = bor W x y (i + 1) := by rw [bor_succ W0]
set_option maxHeartbeats 1000000 in
theorem Sub_c (A A' : Option Addr) (c c' a b B : Nat) (w : World) (hba : b ≤ a) (hL : nd W a ≤ 1000000000) (hr : Row w B A a (nd W a)) (hr' : Row w B A' b (nd W b)) (hBs : B ≤ w.heap.size) :
    Calls Tryd.prog 85 #[.slice A (nd W a) c, .slice A' (nd W b) c'] w (NumPost (a - b) w) := by
  obtain ⟨i0, hi0, hz0, hz1, hz2⟩ := info_parts (P := Tryd.prog) (e := 80) (z := .int .u64 0) (size := 1) (bytes := 8) (by kernel_rfl)
  have HBA := Lib.hid hba
  have HR := Lib.hid hr
  have HR' := Lib.hid hr'
  have HA := Lib.hid (lt_nd (n := a) W2)
  have hL' := nd_mono W2 hba
  clear hr hr' hba
  go_enter Tryd.func85, Tryd.ntmps85
  go_wp2_with (at_make; go_loud (refine wpList_make_zero _ rfl (.tmp 11) (.tmp 11) _ rfl 80 i0 _ Tryd.underlying100 hi0 hz0 hz1 .i64 .i64 _ _ (nd W a) rfl rfl rfl rfl (by rw [hz2]; omega) (by unfold maxLen; omega) ?_))
  rw [wcells_made]
  have HB0 := Lib.hid (Blk.new w 80 (wcells 0 (nd W a)))
  have hbl : Below w.heap.size w (w.alloc (.cells (wcells 0 (nd W a)) 80)) := (Below.refl _ _).alloc (Nat.le_refl _) _
  generalize w.alloc (.cells (wcells 0 (nd W a)) 80) = w1 at *
  obtain ⟨g, hg⟩ : ∃ g, g = w.heap.size := ⟨_, rfl⟩
  rw [← hg] at HB0 hbl hBs ⊢
  have HG := Lib.hid hg
  clear hg
  go_loopw [6, 15] (fun cy i wr => ∃ k : Nat, k ≤ nd W a ∧ i = .int .i64 k ∧ cy = .int .u64 (bor W a b k : Nat) ∧ Hid (Blk wr g 80 (wcells ((a - b) % W ^ k) (nd W a))) ∧ Below g w wr) (fun _ i _ => nd W a - (intOf i).toNat)
  case atStart => exact ⟨0, Nat.zero_le _, rfl, by rw [bor_zero]; rfl, by rw [mod_one]; exact HB0, hbl⟩
  case round =>
    obtain ⟨k, hk, rfl, rfl, hblk, hb⟩ := hrel
    by_cases hlt : k < nd W a
    · obtain ⟨ga, rfl, hga, hca⟩ := HR.out.at_ hlt
      have hca2 := (hb.cell (p := ⟨ga, k, none⟩) (by show ga < g; omega)).trans hca
      have hfz := hblk.out.frozen k
      have hck := hblk.out.cell k
      rw [wcells_get _ _ _ (by omega)] at hck
      have hc1 := bor_le W a b k
      clear hca
      have hsub' : ∀ w, (callFunc 121 #[.int .u64 (dgt W a k : Nat), .int .u64 (dgt W b k : Nat), .int .u64 (bor W a b k : Nat)]).run Tryd.prog w = .ok (.value (.tuple #[.int .u64 (dgt W (a - b) k : Nat), .int .u64 (bor W a b (k + 1) : Nat)])) w := fun w => by
        rw [Tryd.bits_Sub64 _ _ _ hc1 w, sub_word _ _ _ HBA.out, sub_borrow]
      have HS := Lib.hid hsub'
      clear hsub'
      have HB1 := Lib.hid (hblk.out.set_ k (.int .u64 (dgt W (a - b) k : Nat)))
      rw [wcells_set _ _ _ _ (wd_lt _ _), put_sum] at HB1
      have hb1 := hb.setCell (p := ⟨g, k, none⟩) (Nat.le_refl _) (.int .u64 (dgt W (a - b) k : Nat))
      by_cases hlt' : k < nd W b
      · obtain ⟨gb, rfl, hgb, hcb⟩ := HR'.out.at_ hlt'
        have hcb2 := (hb.cell (p := ⟨gb, k, none⟩) (by show gb < g; omega)).trans hcb
        clear hcb
        have hadd := HS.out
        go_wp2_with (simp only [hadd])
        go_roundw
        case rel => exact ⟨k + 1, by omega, by go_num, rfl, HB1, hb1⟩
        case measure => simp [intOf]; omega
      · have hadd : ∀ w, (callFunc 121 #[.int .u64 (dgt W a k : Nat), .int .u64 0, .int .u64 (bor W a b k : Nat)]).run Tryd.prog w = .ok (.value (.tuple #[.int .u64 (dgt W (a - b) k : Nat), .int .u64 (bor W a b (k + 1) : Nat)])) w := fun w => by
          have h := HS.out w
          have e : dgt W b k = 0 := dgt_big W2 (by omega)
          rw [e] at h
          exact h
        go_wp2_with (simp only [hadd])
        go_roundw
        case rel => exact ⟨k + 1, by omega, by go_num, rfl, HB1, hb1⟩
        case measure => simp [intOf]; omega
    · obtain rfl : k = nd W a := by omega
      have hs : a - b < W ^ nd W a := Nat.lt_of_le_of_lt (Nat.sub_le _ _) HA.out
      have HS := Lib.hid hs
      have HB1 := hblk.out
      rw [Nat.mod_eq_of_lt hs] at HB1
      have HB1' := Lib.hid HB1
      clear HB1 hs
      go_wp2_with fail
      refine (Cut_c (some ⟨g, 0, none⟩) (nd W a) (nd W a) (a - b) (g + 1) _ HS.out (Nat.le_refl _) (by omega) (Row.of_blk HB1'.out (by omega))).mono ?_
      rintro e w' ⟨rfl, rfl⟩
      go_wp2
      go_ret
      have hnd := nd_le W2 HS.out
      exact NumPost.mk hnd ((Row.of_blk HB1'.out HB1'.out.lt).less hnd) (by rw [← HG.out]; exact hb)
end Go.Proofs.YtjkonfopajihdaaDoor
