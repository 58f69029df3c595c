/- Contracts of package limb: Shl, Shr. -/
import Derived.Test.YtjkonfopajihdaaDoorN12
set_option linter.unusedSimpArgs false
set_option linter.unusedVariables false
namespace Go.Proofs.YtjkonfopajihdaaDoor
open Go Go.RowKit Nt

/-- The number, when k words of it are shifted. -/
@[irreducible] def shlV (x q r k : Nat) : Nat := x % W ^ k * 2 ^ r * W ^ q
theorem shlV_def (x q r k : Nat) : shlV x q r k = x % W ^ k * 2 ^ r * W ^ q := by unfold shlV; rfl
theorem shlV_zero (x q r : Nat) : shlV x q r 0 = 0 := by rw [shlV_def, mod_one, Nat.zero_mul, Nat.zero_mul]
theorem shl_last {x q r k : Nat} (hx : x < W ^ nd W x) (hk : k = 64 * q + r) : shlV x q r (nd W x) = x * 2 ^ k := by
  rw [shlV_def, Nat.mod_eq_of_lt hx, hk, Nat.pow_add, W_two, ← Nat.pow_mul, Nat.mul_assoc, Nat.mul_comm (2 ^ r)]
theorem int_pow2 (k : Nat) : (2 : Int) ^ k = ((2 ^ k : Nat) : Int) := by rw [Int.natCast_pow]; rfl
/-- The two words of a step. -/
theorem shl_words (x q r k : Nat) (hr : r < 64) : ∃ v V1 u : Nat,
    bits .or .u64 ((dgt W (shlV x q r k) (k + q) : Nat) : Int) (IntKind.u64.wrap ((dgt W x k : Nat) * 2 ^ r)) = (v : Int) ∧ v < 18446744073709551616 ∧
    put W (shlV x q r k) (k + q) v = V1 ∧ dgt W V1 (k + q + 1) = 0 ∧
    bits .or .u64 (0 : Int) (((dgt W x k : Nat) : Int) / 2 ^ (64 - r)) = (u : Int) ∧ u < 18446744073709551616 ∧ put W V1 (k + q + 1) u = shlV x q r (k + 1) := by
  obtain ⟨h1, h2, h3, h4, h5⟩ := shl_step (e := 64) x k q r (by omega)
  rw [← W_two] at h1 h2 h3 h4 h5
  rw [shlV_def, shlV_def]
  refine ⟨_, _, dgt W x k / 2 ^ (64 - r), ?_, Nat.lt_of_lt_of_eq h2 W_eq, rfl, h3, ?_, Nat.lt_of_lt_of_eq h4 W_eq, h5⟩
  · have e : IntKind.u64.wrap ((dgt W x k : Nat) * 2 ^ r) = ((dgt W x k * 2 ^ r % W : Nat) : Int) := by
      rw [IntKind.wrap_u64, int_pow2, ← Int.natCast_mul, W_eq, Int.natCast_emod]; rfl
    rw [e, bits_or_u64_nat _ _ (wd_lt _ _) (Nat.lt_of_lt_of_eq (Nat.mod_lt _ W0) W_eq), h1]
  · rw [int_pow2, ← Int.natCast_ediv]
    have := bits_or_u64_nat 0 (dgt W x k / 2 ^ (64 - r)) (by omega) (Nat.lt_of_lt_of_eq h4 W_eq)
    rw [Nat.zero_or] at this; exact this
theorem Shl_none (A : Option Addr) (c : Nat) (k : Int) (w : World) :
    Calls Tryd.prog 80 #[.slice A 0 c, .int .i64 k] w (NumPost 0 w) := by
  go_enter Tryd.func80, Tryd.ntmps80
  go_wp2
  go_ret
  have e : nd W 0 = 0 := nd_zero _
  have := NumPost.mk (n := 0) (w := w) (w' := w) (A := none) (c := 0) (by rw [e]; exact Nat.le_refl _) (by rw [e]; exact Row.none_) (Below.refl _ _)
  rw [e] at this; exact this
set_option maxHeartbeats 1000000 in
theorem Shl_some (A : Option Addr) (c x k q r B : Nat) (w : World) (hx0 : x ≠ 0) (hk : k = 64 * q + r) (hr64 : r < 64) (hL : nd W x + q ≤ 1000000000) (hr : Row w B A x (nd W x)) (hBs : B ≤ w.heap.size) :
    Calls Tryd.prog 80 #[.slice A (nd W x) c, .int .i64 (k : Nat)] w (NumPost (x * 2 ^ k) w) := by
  obtain ⟨i0, hi0, hz0, hz1, hz2⟩ := info_parts (P := Tryd.prog) (e := 80) (z := .int .u64 0) (size := 1) (bytes := 8) (by kernel_rfl)
  have HR := Lib.hid hr
  have HA := Lib.hid (lt_nd (n := x) W2)
  have hq : (k : Int) / 64 = (q : Int) := by omega
  have hm : (k : Int) % 64 = (r : Int) := by omega
  have hkb : (k : Int) ≤ 1000000000000 := by omega
  have hn0 : nd W x ≠ 0 := fun e => hx0 ((nd_eq_zero W2).1 e)
  have hz := eqz_false hn0
  have HK := Lib.hid hk
  clear hr hk
  go_enter Tryd.func80, Tryd.ntmps80
  go_wp2_with (at_make; go_loud (refine wpList_make_zero _ rfl (.tmp 21) (.tmp 21) _ rfl 80 i0 _ Tryd.underlying100 hi0 hz0 hz1 .i64 .i64 _ _ (nd W x + q + 1) rfl rfl (by omega) (by omega) (by rw [hz2]; omega) (by unfold maxLen; omega) ?_))
  rw [wcells_made]
  have HB0 := Lib.hid (Blk.new w 80 (wcells 0 (nd W x + q + 1)))
  have hbl : Below w.heap.size w (w.alloc (.cells (wcells 0 (nd W x + q + 1)) 80)) := (Below.refl _ _).alloc (Nat.le_refl _) _
  generalize w.alloc (.cells (wcells 0 (nd W x + q + 1)) 80) = w1 at *
  obtain ⟨g, hg⟩ : ∃ g, g = w.heap.size := ⟨_, rfl⟩
  rw [← hg] at HB0 hbl hBs ⊢
  have HG := Lib.hid hg
  clear hg
  go_loopw [25] (fun i wr => ∃ k : Nat, k ≤ nd W x ∧ i = .int .i64 k ∧ Hid (Blk wr g 80 (wcells (shlV x q r k) (nd W x + q + 1))) ∧ Below g w wr) (fun i _ => nd W x - (intOf i).toNat)
  case atStart => exact ⟨0, Nat.zero_le _, rfl, by rw [shlV_zero]; exact HB0, hbl⟩
  case round =>
    obtain ⟨k, hk, rfl, hblk, hb⟩ := hrel
    by_cases hlt : k < nd W x
    · obtain ⟨ga, rfl, hga, hca⟩ := HR.out.at_ hlt
      have hca2 := (hb.cell (p := ⟨ga, k, none⟩) (by show ga < g; omega)).trans hca
      have hfz := hblk.out.frozen (k + q)
      have hck := hblk.out.cell (k + q)
      rw [wcells_get _ _ _ (by omega)] at hck
      obtain ⟨v, V1, u, e1, hv, e2, e3, e4, hu, e5⟩ := shl_words x q r k hr64
      have HB1 := hblk.out.set_ (k + q) (.int .u64 (v : Nat))
      rw [wcells_set _ _ _ _ hv, e2] at HB1
      have hb1 := hb.setCell (p := ⟨g, k + q, none⟩) (Nat.le_refl _) (.int .u64 (v : Nat))
      have hfz1 := HB1.frozen (k + q + 1)
      have hck1 := HB1.cell (k + q + 1)
      rw [wcells_get _ _ _ (by omega), e3] at hck1
      have hck1' : (wr.setCell ⟨g, k + q, none⟩ (.int .u64 (v : Nat))).cell? ⟨g, k + q + 1, none⟩ = some (.int .u64 0) := hck1
      have HB2 := Lib.hid ((HB1.drew.set_ (k + q + 1) (.int .u64 (u : Nat))).drew)
      rw [wcells_set _ _ _ _ hu, e5] at HB2
      have hb2 := (hb1.drew.setCell (p := ⟨g, k + q + 1, none⟩) (Nat.le_refl _) (.int .u64 (u : Nat))).drew
      have h64 : (64 : Int) - (r : Int) = ((64 - r : Nat) : Int) := by omega
      clear hca hck1 HB1 hb1 hv e2 e3 hu e5
      go_wp2
      go_region
      generalize wr.setCell ⟨g, k + q, none⟩ (.int .u64 (v : Nat)) = w2 at *
      go_wp2
      go_region
      go_wp2
      go_roundw
      case rel => exact ⟨k + 1, by omega, by go_num, HB2, hb2⟩
      case measure => simp [intOf]; omega
    · obtain rfl : k = nd W x := by omega
      have HB1 := hblk.out
      rw [shl_last HA.out HK.out] at HB1
      have HB1' := Lib.hid HB1
      have hs : x * 2 ^ (64 * q + r) < W ^ (nd W x + q + 1) := by
        have h1 := HA.out
        rw [Nat.add_assoc (nd W x), Nat.pow_add W]
        have h2 : (2 : Nat) ^ (64 * q + r) ≤ W ^ (q + 1) := by rw [W_two, ← Nat.pow_mul]; exact Nat.pow_le_pow_right (by omega) (by omega)
        refine Nat.lt_of_lt_of_le ((Nat.mul_lt_mul_right (Nat.two_pow_pos _)).2 h1) (Nat.mul_le_mul_left _ h2)
      rw [← HK.out] at hs
      have HS := Lib.hid hs
      clear HB1 hs
      go_wp2_with fail
      refine (Cut_c (some ⟨g, 0, none⟩) (nd W x + q + 1) (nd W x + q + 1) _ (g + 1) _ HS.out (Nat.le_refl _) (by omega) (Row.of_blk HB1'.out (by omega))).mono ?_
      rintro e w' ⟨rfl, rfl⟩
      go_wp2
      go_ret
      have hnd := nd_le W2 HS.out
      exact NumPost.mk hnd ((Row.of_blk HB1'.out HB1'.out.lt).less hnd) (by rw [← HG.out]; exact hb)
theorem Shl_c (A : Option Addr) (c x k B : Nat) (w : World) (hL : nd W x + k / 64 ≤ 1000000000) (hr : Row w B A x (nd W x)) (hBs : B ≤ w.heap.size) :
    Calls Tryd.prog 80 #[.slice A (nd W x) c, .int .i64 (k : Nat)] w (NumPost (x * 2 ^ k) w) := by
  by_cases h : x = 0
  · subst h
    have e : nd W 0 = 0 := nd_zero _
    rw [e, Nat.zero_mul]
    exact Shl_none A c _ w
  · exact Shl_some A c x k (k / 64) (k % 64) B w h (by omega) (by omega) hL hr hBs
/-- The words of a number that is shifted to the right. -/
theorem shr_words (x q r k : Nat) (hr : r < 64) : ∃ v u : Nat,
    ((dgt W x (k + q) : Nat) : Int) / 2 ^ r = (v : Int) ∧ v < 18446744073709551616 ∧
    bits .or .u64 (v : Int) (IntKind.u64.wrap (((dgt W x (k + q + 1) : Nat) : Int) * 2 ^ (64 - r))) = (u : Int) ∧ u = dgt W (x / 2 ^ (64 * q + r)) k ∧
    (dgt W x (k + q + 1) = 0 → v = dgt W (x / 2 ^ (64 * q + r)) k) := by
  have h := dgt_shr (e := 64) (x / W ^ q) r k (by omega)
  rw [← W_two] at h
  rw [dgt_skip, dgt_skip, show k + 1 + q = k + q + 1 by omega] at h
  have e : x / W ^ q / 2 ^ r = x / 2 ^ (64 * q + r) := by rw [W_two, ← Nat.pow_mul, Nat.div_div_eq_div_mul, ← Nat.pow_add]
  rw [e] at h
  have hv : dgt W x (k + q) / 2 ^ r < 2 ^ (64 - r) := by
    rw [Nat.div_lt_iff_lt_mul (Nat.two_pow_pos r), ← Nat.pow_add, show 64 - r + r = 64 by omega, ← W_two]; exact dgt_lt W0 _ _
  have hv64 : dgt W x (k + q) / 2 ^ r < 18446744073709551616 := Nat.lt_of_le_of_lt (Nat.div_le_self _ _) (wd_lt _ _)
  have hlow : dgt W x (k + q + 1) * 2 ^ (64 - r) % W = 2 ^ (64 - r) * (dgt W x (k + q + 1) % 2 ^ r) := by
    have hW : W = 2 ^ (64 - r) * 2 ^ r := by rw [W_two, ← Nat.pow_add]; congr 1; omega
    generalize dgt W x (k + q + 1) = D
    rw [hW, Nat.mul_comm, Nat.mul_mod_mul_left]
  refine ⟨dgt W x (k + q) / 2 ^ r, dgt W (x / 2 ^ (64 * q + r)) k, ?_, hv64, ?_, rfl, ?_⟩
  · rw [int_pow2, ← Int.natCast_ediv]
  · have e2 : IntKind.u64.wrap (((dgt W x (k + q + 1) : Nat) : Int) * 2 ^ (64 - r)) = ((dgt W x (k + q + 1) * 2 ^ (64 - r) % W : Nat) : Int) := by
      rw [IntKind.wrap_u64, int_pow2, ← Int.natCast_mul, W_eq, Int.natCast_emod]; rfl
    rw [e2, bits_or_u64_nat _ _ hv64 (Nat.lt_of_lt_of_eq (Nat.mod_lt _ W0) W_eq), h, hlow, or_add _ _ _ hv]
  · intro hz; rw [h, hz, Nat.zero_mul, Nat.zero_mod, Nat.add_zero]
theorem Shr_far (A : Option Addr) (c x k L : Nat) (w : World) (h : L ≤ k / 64) (hk : k ≤ 1000000000000) :
    Calls Tryd.prog 101 #[.slice A L c, .int .i64 (k : Nat)] w fun e w' => e = .returned (.slice none 0 0) ∧ w = w' := by
  obtain ⟨q, hq⟩ : ∃ q : Nat, (k : Int) / 64 = (q : Int) := ⟨k / 64, by omega⟩
  have h1 : L ≤ q := by omega
  go_enter Tryd.func101, Tryd.ntmps101
  go_wp2
  go_ret
  exact ⟨rfl, rfl⟩
set_option maxHeartbeats 1000000 in
theorem Shr_near (A : Option Addr) (c x k q r B : Nat) (w : World) (hk : k = 64 * q + r) (hr64 : r < 64) (hq' : q < nd W x) (hL : nd W x ≤ 1000000000) (hr : Row w B A x (nd W x)) (hBs : B ≤ w.heap.size) :
    Calls Tryd.prog 101 #[.slice A (nd W x) c, .int .i64 (k : Nat)] w (NumPost (x / 2 ^ k) w) := by
  obtain ⟨i0, hi0, hz0, hz1, hz2⟩ := info_parts (P := Tryd.prog) (e := 80) (z := .int .u64 0) (size := 1) (bytes := 8) (by kernel_rfl)
  obtain ⟨L, hLe⟩ : ∃ L, nd W x = q + L := ⟨nd W x - q, by omega⟩
  have HR := Lib.hid hr
  have HA := lt_nd (n := x) W2
  have hs : x / 2 ^ (64 * q + r) < W ^ L := by
    rw [Nat.pow_add, ← Nat.div_div_eq_div_mul, Nat.pow_mul, ← W_two]
    refine Nat.lt_of_le_of_lt (Nat.div_le_self _ _) ?_
    rw [Nat.div_lt_iff_lt_mul (Nat.pow_pos W0), ← Nat.pow_add, Nat.add_comm L, ← hLe]; exact HA
  have HS := Lib.hid hs
  have HND := Lib.hid (fun (h : nd W x ≤ q + L) => h)
  have hq : (k : Int) / 64 = (q : Int) := by omega
  have hm : (k : Int) % 64 = (r : Int) := by omega
  have hkb : (k : Int) ≤ 1000000000000 := by omega
  have HZ : Hid (∀ j, q + L ≤ j → dgt W x j = 0) := Lib.hid (fun j hj => dgt_big W2 (by omega))
  have HK := Lib.hid hk
  obtain ⟨M, hM⟩ : ∃ M, M = nd W x := ⟨_, rfl⟩
  rw [← hM] at HR hL ⊢
  have hql : ¬ M ≤ q := by omega
  have hqb : (q : Int) ≤ 1000000000 := by omega
  have hsub : (M : Int) - (q : Int) = (L : Int) := by omega
  have HML : Hid (M = q + L) := Lib.hid (by omega)
  have hL2 : L ≤ M := by omega

  clear hr hk hs HA hLe hq' hM HND
  go_enter Tryd.func101, Tryd.ntmps101
  go_wp2_with (at_make; go_loud (refine wpList_make_zero _ rfl (.tmp 20) (.tmp 20) _ rfl 80 i0 _ Tryd.underlying100 hi0 hz0 hz1 .i64 .i64 _ _ L rfl rfl rfl rfl (by rw [hz2]; omega) (by unfold maxLen; omega) ?_))
  rw [wcells_made]
  have HB0 := Lib.hid (Blk.new w 80 (wcells 0 L))
  have hbl : Below w.heap.size w (w.alloc (.cells (wcells 0 L) 80)) := (Below.refl _ _).alloc (Nat.le_refl _) _
  generalize w.alloc (.cells (wcells 0 L) 80) = w1 at *
  obtain ⟨g, hg⟩ : ∃ g, g = w.heap.size := ⟨_, rfl⟩
  rw [← hg] at HB0 hbl hBs ⊢
  have HG := Lib.hid hg
  clear hg
  go_loopw [24] (fun i wr => ∃ k : Nat, k ≤ L ∧ i = .int .i64 k ∧ Hid (Blk wr g 80 (wcells (x / 2 ^ (64 * q + r) % W ^ k) L)) ∧ Below g w wr) (fun i _ => L - (intOf i).toNat)
  case atStart => exact ⟨0, Nat.zero_le _, rfl, by rw [mod_one]; exact HB0, hbl⟩
  case round =>
    obtain ⟨k, hk, rfl, hblk, hb⟩ := hrel
    by_cases hlt : k < L
    · have hMq : k + q < M := by have := HML.out; omega
      obtain ⟨ga, rfl, hga, hca⟩ := HR.out.at_ hMq
      have hca2 := (hb.cell (p := ⟨ga, k + q, none⟩) (by show ga < g; omega)).trans hca
      have hfz := hblk.out.frozen k
      have hck := hblk.out.cell k
      rw [wcells_get _ _ _ (by omega)] at hck
      obtain ⟨v, u, e1, hv, e2, e3, e4⟩ := shr_words x q r k hr64
      have hv' := Lib.hid hv
      have HE3 := Lib.hid e3
      have HE4 := Lib.hid e4
      have hhb := hblk.out
      have h64 : (64 : Int) - (r : Int) = ((64 - r : Nat) : Int) := by omega
      have hLi : (M : Int) ≤ 1000000000 := by omega
      have hkq : (k : Int) + (q : Int) + 1 ≤ 1000000000 := by omega
      have hkq2 : k + q + 1 ≤ 1000000000 := by omega
      have HLh := Lib.hid hL
      clear hca e3 e4 hv hL
      by_cases hlt2 : k + q + 1 < M
      · obtain ⟨gb, egb, hgb, hcb⟩ := HR.out.at_ hlt2
        obtain rfl : ga = gb := congrArg Addr.block (Option.some.inj egb)
        have hb1 := hb.setCell (p := ⟨g, k, none⟩) (Nat.le_refl _) (.int .u64 (v : Nat))
        have hcb2 := (hb1.cell (p := ⟨ga, k + q + 1, none⟩) (by show ga < g; omega)).trans hcb
        have HB1 := hhb.set_ k (.int .u64 (v : Nat))
        have hfz1 := HB1.frozen k
        have hck1 : (wr.setCell ⟨g, k, none⟩ (.int .u64 (v : Nat))).cell? ⟨g, k, none⟩ = some (.int .u64 (v : Nat)) := by
          rw [HB1.cell, wcells_set _ _ _ _ hv'.out, wcells_get _ _ _ hlt, dgt_put W2 _ _ _ _ (by rw [W_eq]; exact hv'.out), if_pos rfl]
        have HB2 := Lib.hid ((HB1.set_ k (.int .u64 (u : Nat))).drew)
        rw [Array.setIfInBounds_setIfInBounds, wcells_set _ _ _ _ (by rw [HE3.out]; exact wd_lt _ _), HE3.out, put_sum] at HB2
        have hb2 := (hb1.setCell (p := ⟨g, k, none⟩) (Nat.le_refl _) (.int .u64 (u : Nat))).drew
        rw [← HE3.out] at HB2
        have hT : decide ((k : Int) + (q : Int) + 1 < (M : Int)) = true := decide_eq_true (by omega)
        have HLT := Lib.hid hlt
        clear hcb HB1 hb1 hhb
        go_upto_if 44 with fail
        have HA1 := Lib.hid hlt2
        have HA3 := Lib.hid hkq2
        clear hlt2 hkq2 hlt
        go_wp2
        have hlt := HLT.out
        have hlt2 := HA1.out
        go_region
        go_wp2
        go_roundw
        case rel => exact ⟨k + 1, by omega, by go_num, by rw [HE3.out] at *; exact HB2, hb2⟩
        case measure => simp [intOf]; omega
      · have hz0' : v = dgt W (x / 2 ^ (64 * q + r)) k := HE4.out (HZ.out _ (by have := HML.out; omega))
        have HZ' := Lib.hid hz0'
        have HB1 := Lib.hid (hhb.set_ k (.int .u64 (v : Nat)))
        rw [wcells_set _ _ _ _ hv'.out, hz0', put_sum] at HB1
        have hb1 := hb.setCell (p := ⟨g, k, none⟩) (Nat.le_refl _) (.int .u64 (v : Nat))
        have hT : decide ((k : Int) + (q : Int) + 1 < (M : Int)) = false := decide_eq_false (by omega)
        clear hz0' hhb
        go_upto_if 44 with fail
        have HA3 := Lib.hid hkq2
        have HA1 := Lib.hid hlt2
        clear hlt2 hkq2
        go_wp2
        go_roundw
        case rel => exact ⟨k + 1, by omega, by go_num, by rw [HZ'.out]; exact HB1, hb1⟩
        case measure => simp [intOf]; omega
    · obtain rfl : k = L := by omega
      have HB1 := hblk.out
      rw [Nat.mod_eq_of_lt HS.out, ← HK.out] at HB1
      have HB1' := Lib.hid HB1
      have HS2 := HS
      rw [← HK.out] at HS2
      clear HB1
      go_wp2_with fail
      refine (Cut_c (some ⟨g, 0, none⟩) k k _ (g + 1) _ HS2.out (Nat.le_refl _) (by omega) (Row.of_blk HB1'.out (by omega))).mono ?_
      rintro e w' ⟨rfl, rfl⟩
      go_wp2
      go_ret
      have hnd := nd_le W2 HS2.out
      exact NumPost.mk hnd ((Row.of_blk HB1'.out HB1'.out.lt).less hnd) (by rw [← HG.out]; exact hb)
theorem Shr_c (A : Option Addr) (c x k B : Nat) (w : World) (hk : k ≤ 1000000000000) (hL : nd W x ≤ 1000000000) (hr : Row w B A x (nd W x)) (hBs : B ≤ w.heap.size) :
    Calls Tryd.prog 101 #[.slice A (nd W x) c, .int .i64 (k : Nat)] w (NumPost (x / 2 ^ k) w) := by
  by_cases h : k / 64 < nd W x
  · exact Shr_near A c x k (k / 64) (k % 64) B w (by omega) (by omega) h hL hr hBs
  · have h0 : x / 2 ^ k = 0 := by
      apply Nat.div_eq_of_lt
      refine Nat.lt_of_lt_of_le (lt_nd (n := x) W2) ?_
      generalize nd W x = m at *
      rw [W_two, ← Nat.pow_mul]; exact Nat.pow_le_pow_right (by omega) (by omega)
    refine (Shr_far A c x k (nd W x) w (by omega) hk).mono ?_
    rintro e w' ⟨rfl, rfl⟩
    rw [h0]
    have e : nd W 0 = 0 := nd_zero _
    have := NumPost.mk (n := 0) (w := w) (w' := w) (A := none) (c := 0) (by rw [e]; exact Nat.le_refl _) (by rw [e]; exact Row.none_) (Below.refl _ _)
    rw [e] at this; exact this
end Go.Proofs.YtjkonfopajihdaaDoor
