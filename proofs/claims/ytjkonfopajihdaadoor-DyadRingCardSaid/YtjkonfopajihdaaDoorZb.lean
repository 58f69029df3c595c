/- Texts put together: N13 N14 N15 N16 N17 N18 N19 N20 N21 N32. -/
import Derived.Test.YtjkonfopajihdaaDoorZa
import Derived.Laws.AppendOwn
import Derived.Deep.LoopGhost
import Derived.Maps.AppendAt
set_option linter.unusedSimpArgs false
set_option linter.unusedVariables false
namespace Go.Proofs.YtjkonfopajihdaaDoor
open Go Go.RowKit Nt

/-- The number, when k words of it are shifted. -/
@[irreducible] def shlV (x q r k : Nat) : Nat := x % W ^ k * 2 ^ r * W ^ q
theorem shlV_def (x q r k : Nat) : shlV x q r k = x % W ^ k * 2 ^ r * W ^ q := by unfold shlV; rfl
theorem shlV_zero (x q r : Nat) : shlV x q r 0 = 0 := by rw [shlV_def, mod_one, Nat.zero_mul, Nat.zero_mul]
theorem shl_last {x q r k : Nat} (hx : x < W ^ nd W x) (hk : k = 64 * q + r) : shlV x q r (nd W x) = x * 2 ^ k := by
  rw [shlV_def, Nat.mod_eq_of_lt hx, hk, Nat.pow_add, W_two, ← Nat.pow_mul, Nat.mul_assoc, Nat.mul_comm (2 ^ r)]
theorem int_pow2 (k : Nat) : (2 : Int) ^ k = ((2 ^ k : Nat) : Int) := by rw [Int.natCast_pow]; rfl
/-- The two words of a step. -/
theorem shl_words (x q r k : Nat) (hr : r < 64) : ∃ v V1 u : Nat,
    bits .or .u64 ((dgt W (shlV x q r k) (k + q) : Nat) : Int) (IntKind.u64.wrap ((dgt W x k : Nat) * 2 ^ r)) = (v : Int) ∧ v < 18446744073709551616 ∧
    put W (shlV x q r k) (k + q) v = V1 ∧ dgt W V1 (k + q + 1) = 0 ∧
    bits .or .u64 (0 : Int) (((dgt W x k : Nat) : Int) / 2 ^ (64 - r)) = (u : Int) ∧ u < 18446744073709551616 ∧ put W V1 (k + q + 1) u = shlV x q r (k + 1) := by
  obtain ⟨h1, h2, h3, h4, h5⟩ := shl_step (e := 64) x k q r (by omega)
  rw [← W_two] at h1 h2 h3 h4 h5
  rw [shlV_def, shlV_def]
  refine ⟨_, _, dgt W x k / 2 ^ (64 - r), ?_, Nat.lt_of_lt_of_eq h2 W_eq, rfl, h3, ?_, Nat.lt_of_lt_of_eq h4 W_eq, h5⟩
  · have e : IntKind.u64.wrap ((dgt W x k : Nat) * 2 ^ r) = ((dgt W x k * 2 ^ r % W : Nat) : Int) := by
      rw [IntKind.wrap_u64, int_pow2, ← Int.natCast_mul, W_eq, Int.natCast_emod]; rfl
    rw [e, bits_or_u64_nat _ _ (wd_lt _ _) (Nat.lt_of_lt_of_eq (Nat.mod_lt _ W0) W_eq), h1]
  · rw [int_pow2, ← Int.natCast_ediv]
    have := bits_or_u64_nat 0 (dgt W x k / 2 ^ (64 - r)) (by omega) (Nat.lt_of_lt_of_eq h4 W_eq)
    rw [Nat.zero_or] at this; exact this
theorem Shl_none (A : Option Addr) (c : Nat) (k : Int) (w : World) :
    Calls Tryd.prog 80 #[.slice A 0 c, .int .i64 k] w (NumPost 0 w) := by
  go_enter Tryd.func80, Tryd.ntmps80
  go_wp2
  go_ret
  have e : nd W 0 = 0 := nd_zero _
  have := NumPost.mk (n := 0) (w := w) (w' := w) (A := none) (c := 0) (by rw [e]; exact Nat.le_refl _) (by rw [e]; exact Row.none_) (Below.refl _ _)
  rw [e] at this; exact this
set_option maxHeartbeats 1000000 in
theorem Shl_some (A : Option Addr) (c x k q r B : Nat) (w : World) (hx0 : x ≠ 0) (hk : k = 64 * q + r) (hr64 : r < 64) (hL : nd W x + q ≤ 1000000000) (hr : Row w B A x (nd W x)) (hBs : B ≤ w.heap.size) :
    Calls Tryd.prog 80 #[.slice A (nd W x) c, .int .i64 (k : Nat)] w (NumPost (x * 2 ^ k) w) := by
  obtain ⟨i0, hi0, hz0, hz1, hz2⟩ := info_parts (P := Tryd.prog) (e := 80) (z := .int .u64 0) (size := 1) (bytes := 8) (by kernel_rfl)
  have HR := Lib.hid hr
  have HA := Lib.hid (lt_nd (n := x) W2)
  have hq : (k : Int) / 64 = (q : Int) := by omega
  have hm : (k : Int) % 64 = (r : Int) := by omega
  have hkb : (k : Int) ≤ 1000000000000 := by omega
  have hn0 : nd W x ≠ 0 := fun e => hx0 ((nd_eq_zero W2).1 e)
  have hz := eqz_false hn0
  have HK := Lib.hid hk
  clear hr hk
  go_enter Tryd.func80, Tryd.ntmps80
  go_wp2_with (at_make; go_loud (refine wpList_make_zero _ rfl (.tmp 21) (.tmp 21) _ rfl 80 i0 _ Tryd.underlying100 hi0 hz0 hz1 .i64 .i64 _ _ (nd W x + q + 1) rfl rfl (by omega) (by omega) (by rw [hz2]; omega) (by unfold maxLen; omega) ?_))
  rw [wcells_made]
  have HB0 := Lib.hid (Blk.new w 80 (wcells 0 (nd W x + q + 1)))
  have hbl : Below w.heap.size w (w.alloc (.cells (wcells 0 (nd W x + q + 1)) 80)) := (Below.refl _ _).alloc (Nat.le_refl _) _
  generalize w.alloc (.cells (wcells 0 (nd W x + q + 1)) 80) = w1 at *
  obtain ⟨g, hg⟩ : ∃ g, g = w.heap.size := ⟨_, rfl⟩
  rw [← hg] at HB0 hbl hBs ⊢
  have HG := Lib.hid hg
  clear hg
  go_loopw [25] (fun i wr => ∃ k : Nat, k ≤ nd W x ∧ i = .int .i64 k ∧ Hid (Blk wr g 80 (wcells (shlV x q r k) (nd W x + q + 1))) ∧ Below g w wr) (fun i _ => nd W x - (intOf i).toNat)
  case atStart => exact ⟨0, Nat.zero_le _, rfl, by rw [shlV_zero]; exact HB0, hbl⟩
  case round =>
    obtain ⟨k, hk, rfl, hblk, hb⟩ := hrel
    by_cases hlt : k < nd W x
    · obtain ⟨ga, rfl, hga, hca⟩ := HR.out.at_ hlt
      have hca2 := (hb.cell (p := ⟨ga, k, none⟩) (by show ga < g; omega)).trans hca
      have hfz := hblk.out.frozen (k + q)
      have hck := hblk.out.cell (k + q)
      rw [wcells_get _ _ _ (by omega)] at hck
      obtain ⟨v, V1, u, e1, hv, e2, e3, e4, hu, e5⟩ := shl_words x q r k hr64
      have HB1 := hblk.out.set_ (k + q) (.int .u64 (v : Nat))
      rw [wcells_set _ _ _ _ hv, e2] at HB1
      have hb1 := hb.setCell (p := ⟨g, k + q, none⟩) (Nat.le_refl _) (.int .u64 (v : Nat))
      have hfz1 := HB1.frozen (k + q + 1)
      have hck1 := HB1.cell (k + q + 1)
      rw [wcells_get _ _ _ (by omega), e3] at hck1
      have hck1' : (wr.setCell ⟨g, k + q, none⟩ (.int .u64 (v : Nat))).cell? ⟨g, k + q + 1, none⟩ = some (.int .u64 0) := hck1
      have HB2 := Lib.hid ((HB1.drew.set_ (k + q + 1) (.int .u64 (u : Nat))).drew)
      rw [wcells_set _ _ _ _ hu, e5] at HB2
      have hb2 := (hb1.drew.setCell (p := ⟨g, k + q + 1, none⟩) (Nat.le_refl _) (.int .u64 (u : Nat))).drew
      have h64 : (64 : Int) - (r : Int) = ((64 - r : Nat) : Int) := by omega
      clear hca hck1 HB1 hb1 hv e2 e3 hu e5
      go_wp2
      go_region
      generalize wr.setCell ⟨g, k + q, none⟩ (.int .u64 (v : Nat)) = w2 at *
      go_wp2
      go_region
      go_wp2
      go_roundw
      case rel => exact ⟨k + 1, by omega, by go_num, HB2, hb2⟩
      case measure => simp [intOf]; omega
    · obtain rfl : k = nd W x := by omega
      have HB1 := hblk.out
      rw [shl_last HA.out HK.out] at HB1
      have HB1' := Lib.hid HB1
      have hs : x * 2 ^ (64 * q + r) < W ^ (nd W x + q + 1) := by
        have h1 := HA.out
        rw [Nat.add_assoc (nd W x), Nat.pow_add W]
        have h2 : (2 : Nat) ^ (64 * q + r) ≤ W ^ (q + 1) := by rw [W_two, ← Nat.pow_mul]; exact Nat.pow_le_pow_right (by omega) (by omega)
        refine Nat.lt_of_lt_of_le ((Nat.mul_lt_mul_right (Nat.two_pow_pos _)).2 h1) (Nat.mul_le_mul_left _ h2)
      rw [← HK.out] at hs
      have HS := Lib.hid hs
      clear HB1 hs
      go_wp2_with fail
      refine (Cut_c (some ⟨g, 0, none⟩) (nd W x + q + 1) (nd W x + q + 1) _ (g + 1) _ HS.out (Nat.le_refl _) (by omega) (Row.of_blk HB1'.out (by omega))).mono ?_
      rintro e w' ⟨rfl, rfl⟩
      go_wp2
      go_ret
      have hnd := nd_le W2 HS.out
      exact NumPost.mk hnd ((Row.of_blk HB1'.out HB1'.out.lt).less hnd) (by rw [← HG.out]; exact hb)
theorem Shl_c (A : Option Addr) (c x k B : Nat) (w : World) (hL : nd W x + k / 64 ≤ 1000000000) (hr : Row w B A x (nd W x)) (hBs : B ≤ w.heap.size) :
    Calls Tryd.prog 80 #[.slice A (nd W x) c, .int .i64 (k : Nat)] w (NumPost (x * 2 ^ k) w) := by
  by_cases h : x = 0
  · subst h
    have e : nd W 0 = 0 := nd_zero _
    rw [e, Nat.zero_mul]
    exact Shl_none A c _ w
  · exact Shl_some A c x k (k / 64) (k % 64) B w h (by omega) (by omega) hL hr hBs
/-- The words of a number that is shifted to the right. -/
theorem shr_words (x q r k : Nat) (hr : r < 64) : ∃ v u : Nat,
    ((dgt W x (k + q) : Nat) : Int) / 2 ^ r = (v : Int) ∧ v < 18446744073709551616 ∧
    bits .or .u64 (v : Int) (IntKind.u64.wrap (((dgt W x (k + q + 1) : Nat) : Int) * 2 ^ (64 - r))) = (u : Int) ∧ u = dgt W (x / 2 ^ (64 * q + r)) k ∧
    (dgt W x (k + q + 1) = 0 → v = dgt W (x / 2 ^ (64 * q + r)) k) := by
  have h := dgt_shr (e := 64) (x / W ^ q) r k (by omega)
  rw [← W_two] at h
  rw [dgt_skip, dgt_skip, show k + 1 + q = k + q + 1 by omega] at h
  have e : x / W ^ q / 2 ^ r = x / 2 ^ (64 * q + r) := by rw [W_two, ← Nat.pow_mul, Nat.div_div_eq_div_mul, ← Nat.pow_add]
  rw [e] at h
  have hv : dgt W x (k + q) / 2 ^ r < 2 ^ (64 - r) := by
    rw [Nat.div_lt_iff_lt_mul (Nat.two_pow_pos r), ← Nat.pow_add, show 64 - r + r = 64 by omega, ← W_two]; exact dgt_lt W0 _ _
  have hv64 : dgt W x (k + q) / 2 ^ r < 18446744073709551616 := Nat.lt_of_le_of_lt (Nat.div_le_self _ _) (wd_lt _ _)
  have hlow : dgt W x (k + q + 1) * 2 ^ (64 - r) % W = 2 ^ (64 - r) * (dgt W x (k + q + 1) % 2 ^ r) := by
    have hW : W = 2 ^ (64 - r) * 2 ^ r := by rw [W_two, ← Nat.pow_add]; congr 1; omega
    generalize dgt W x (k + q + 1) = D
    rw [hW, Nat.mul_comm, Nat.mul_mod_mul_left]
  refine ⟨dgt W x (k + q) / 2 ^ r, dgt W (x / 2 ^ (64 * q + r)) k, ?_, hv64, ?_, rfl, ?_⟩
  · rw [int_pow2, ← Int.natCast_ediv]
  · have e2 : IntKind.u64.wrap (((dgt W x (k + q + 1) : Nat) : Int) * 2 ^ (64 - r)) = ((dgt W x (k + q + 1) * 2 ^ (64 - r) % W : Nat) : Int) := by
      rw [IntKind.wrap_u64, int_pow2, ← Int.natCast_mul, W_eq, Int.natCast_emod]; rfl
    rw [e2, bits_or_u64_nat _ _ hv64 (Nat.lt_of_lt_of_eq (Nat.mod_lt _ W0) W_eq), h, hlow, or_add _ _ _ hv]
  · intro hz; rw [h, hz, Nat.zero_mul, Nat.zero_mod, Nat.add_zero]
theorem Shr_far (A : Option Addr) (c x k L : Nat) (w : World) (h : L ≤ k / 64) (hk : k ≤ 1000000000000) :
    Calls Tryd.prog 101 #[.slice A L c, .int .i64 (k : Nat)] w fun e w' => e = .returned (.slice none 0 0) ∧ w = w' := by
  obtain ⟨q, hq⟩ : ∃ q : Nat, (k : Int) / 64 = (q : Int) := ⟨k / 64, by omega⟩
  have h1 : L ≤ q := by omega
  go_enter Tryd.func101, Tryd.ntmps101
  go_wp2
  go_ret
  exact ⟨rfl, rfl⟩
set_option maxHeartbeats 1000000 in
theorem Shr_near (A : Option Addr) (c x k q r B : Nat) (w : World) (hk : k = 64 * q + r) (hr64 : r < 64) (hq' : q < nd W x) (hL : nd W x ≤ 1000000000) (hr : Row w B A x (nd W x)) (hBs : B ≤ w.heap.size) :
    Calls Tryd.prog 101 #[.slice A (nd W x) c, .int .i64 (k : Nat)] w (NumPost (x / 2 ^ k) w) := by
  obtain ⟨i0, hi0, hz0, hz1, hz2⟩ := info_parts (P := Tryd.prog) (e := 80) (z := .int .u64 0) (size := 1) (bytes := 8) (by kernel_rfl)
  obtain ⟨L, hLe⟩ : ∃ L, nd W x = q + L := ⟨nd W x - q, by omega⟩
  have HR := Lib.hid hr
  have HA := lt_nd (n := x) W2
  have hs : x / 2 ^ (64 * q + r) < W ^ L := by
    rw [Nat.pow_add, ← Nat.div_div_eq_div_mul, Nat.pow_mul, ← W_two]
    refine Nat.lt_of_le_of_lt (Nat.div_le_self _ _) ?_
    rw [Nat.div_lt_iff_lt_mul (Nat.pow_pos W0), ← Nat.pow_add, Nat.add_comm L, ← hLe]; exact HA
  have HS := Lib.hid hs
  have HND := Lib.hid (fun (h : nd W x ≤ q + L) => h)
  have hq : (k : Int) / 64 = (q : Int) := by omega
  have hm : (k : Int) % 64 = (r : Int) := by omega
  have hkb : (k : Int) ≤ 1000000000000 := by omega
  have HZ : Hid (∀ j, q + L ≤ j → dgt W x j = 0) := Lib.hid (fun j hj => dgt_big W2 (by omega))
  have HK := Lib.hid hk
  obtain ⟨M, hM⟩ : ∃ M, M = nd W x := ⟨_, rfl⟩
  rw [← hM] at HR hL ⊢
  have hql : ¬ M ≤ q := by omega
  have hqb : (q : Int) ≤ 1000000000 := by omega
  have hsub : (M : Int) - (q : Int) = (L : Int) := by omega
  have HML : Hid (M = q + L) := Lib.hid (by omega)
  have hL2 : L ≤ M := by omega

  clear hr hk hs HA hLe hq' hM HND
  go_enter Tryd.func101, Tryd.ntmps101
  go_wp2_with (at_make; go_loud (refine wpList_make_zero _ rfl (.tmp 20) (.tmp 20) _ rfl 80 i0 _ Tryd.underlying100 hi0 hz0 hz1 .i64 .i64 _ _ L rfl rfl rfl rfl (by rw [hz2]; omega) (by unfold maxLen; omega) ?_))
  rw [wcells_made]
  have HB0 := Lib.hid (Blk.new w 80 (wcells 0 L))
  have hbl : Below w.heap.size w (w.alloc (.cells (wcells 0 L) 80)) := (Below.refl _ _).alloc (Nat.le_refl _) _
  generalize w.alloc (.cells (wcells 0 L) 80) = w1 at *
  obtain ⟨g, hg⟩ : ∃ g, g = w.heap.size := ⟨_, rfl⟩
  rw [← hg] at HB0 hbl hBs ⊢
  have HG := Lib.hid hg
  clear hg
  go_loopw [24] (fun i wr => ∃ k : Nat, k ≤ L ∧ i = .int .i64 k ∧ Hid (Blk wr g 80 (wcells (x / 2 ^ (64 * q + r) % W ^ k) L)) ∧ Below g w wr) (fun i _ => L - (intOf i).toNat)
  case atStart => exact ⟨0, Nat.zero_le _, rfl, by rw [mod_one]; exact HB0, hbl⟩
  case round =>
    obtain ⟨k, hk, rfl, hblk, hb⟩ := hrel
    by_cases hlt : k < L
    · have hMq : k + q < M := by have := HML.out; omega
      obtain ⟨ga, rfl, hga, hca⟩ := HR.out.at_ hMq
      have hca2 := (hb.cell (p := ⟨ga, k + q, none⟩) (by show ga < g; omega)).trans hca
      have hfz := hblk.out.frozen k
      have hck := hblk.out.cell k
      rw [wcells_get _ _ _ (by omega)] at hck
      obtain ⟨v, u, e1, hv, e2, e3, e4⟩ := shr_words x q r k hr64
      have hv' := Lib.hid hv
      have HE3 := Lib.hid e3
      have HE4 := Lib.hid e4
      have hhb := hblk.out
      have h64 : (64 : Int) - (r : Int) = ((64 - r : Nat) : Int) := by omega
      have hLi : (M : Int) ≤ 1000000000 := by omega
      have hkq : (k : Int) + (q : Int) + 1 ≤ 1000000000 := by omega
      have hkq2 : k + q + 1 ≤ 1000000000 := by omega
      have HLh := Lib.hid hL
      clear hca e3 e4 hv hL
      by_cases hlt2 : k + q + 1 < M
      · obtain ⟨gb, egb, hgb, hcb⟩ := HR.out.at_ hlt2
        obtain rfl : ga = gb := congrArg Addr.block (Option.some.inj egb)
        have hb1 := hb.setCell (p := ⟨g, k, none⟩) (Nat.le_refl _) (.int .u64 (v : Nat))
        have hcb2 := (hb1.cell (p := ⟨ga, k + q + 1, none⟩) (by show ga < g; omega)).trans hcb
        have HB1 := hhb.set_ k (.int .u64 (v : Nat))
        have hfz1 := HB1.frozen k
        have hck1 : (wr.setCell ⟨g, k, none⟩ (.int .u64 (v : Nat))).cell? ⟨g, k, none⟩ = some (.int .u64 (v : Nat)) := by
          rw [HB1.cell, wcells_set _ _ _ _ hv'.out, wcells_get _ _ _ hlt, dgt_put W2 _ _ _ _ (by rw [W_eq]; exact hv'.out), if_pos rfl]
        have HB2 := Lib.hid ((HB1.set_ k (.int .u64 (u : Nat))).drew)
        rw [Array.setIfInBounds_setIfInBounds, wcells_set _ _ _ _ (by rw [HE3.out]; exact wd_lt _ _), HE3.out, put_sum] at HB2
        have hb2 := (hb1.setCell (p := ⟨g, k, none⟩) (Nat.le_refl _) (.int .u64 (u : Nat))).drew
        rw [← HE3.out] at HB2
        have hT : decide ((k : Int) + (q : Int) + 1 < (M : Int)) = true := decide_eq_true (by omega)
        have HLT := Lib.hid hlt
        clear hcb HB1 hb1 hhb
        go_upto_if 44 with fail
        have HA1 := Lib.hid hlt2
        have HA3 := Lib.hid hkq2
        clear hlt2 hkq2 hlt
        go_wp2
        have hlt := HLT.out
        have hlt2 := HA1.out
        go_region
        go_wp2
        go_roundw
        case rel => exact ⟨k + 1, by omega, by go_num, by rw [HE3.out] at *; exact HB2, hb2⟩
        case measure => simp [intOf]; omega
      · have hz0' : v = dgt W (x / 2 ^ (64 * q + r)) k := HE4.out (HZ.out _ (by have := HML.out; omega))
        have HZ' := Lib.hid hz0'
        have HB1 := Lib.hid (hhb.set_ k (.int .u64 (v : Nat)))
        rw [wcells_set _ _ _ _ hv'.out, hz0', put_sum] at HB1
        have hb1 := hb.setCell (p := ⟨g, k, none⟩) (Nat.le_refl _) (.int .u64 (v : Nat))
        have hT : decide ((k : Int) + (q : Int) + 1 < (M : Int)) = false := decide_eq_false (by omega)
        clear hz0' hhb
        go_upto_if 44 with fail
        have HA3 := Lib.hid hkq2
        have HA1 := Lib.hid hlt2
        clear hlt2 hkq2
        go_wp2
        go_roundw
        case rel => exact ⟨k + 1, by omega, by go_num, by rw [HZ'.out]; exact HB1, hb1⟩
        case measure => simp [intOf]; omega
    · obtain rfl : k = L := by omega
      have HB1 := hblk.out
      rw [Nat.mod_eq_of_lt HS.out, ← HK.out] at HB1
      have HB1' := Lib.hid HB1
      have HS2 := HS
      rw [← HK.out] at HS2
      clear HB1
      go_wp2_with fail
      refine (Cut_c (some ⟨g, 0, none⟩) k k _ (g + 1) _ HS2.out (Nat.le_refl _) (by omega) (Row.of_blk HB1'.out (by omega))).mono ?_
      rintro e w' ⟨rfl, rfl⟩
      go_wp2
      go_ret
      have hnd := nd_le W2 HS2.out
      exact NumPost.mk hnd ((Row.of_blk HB1'.out HB1'.out.lt).less hnd) (by rw [← HG.out]; exact hb)
theorem Shr_c (A : Option Addr) (c x k B : Nat) (w : World) (hk : k ≤ 1000000000000) (hL : nd W x ≤ 1000000000) (hr : Row w B A x (nd W x)) (hBs : B ≤ w.heap.size) :
    Calls Tryd.prog 101 #[.slice A (nd W x) c, .int .i64 (k : Nat)] w (NumPost (x / 2 ^ k) w) := by
  by_cases h : k / 64 < nd W x
  · exact Shr_near A c x k (k / 64) (k % 64) B w (by omega) (by omega) h hL hr hBs
  · have h0 : x / 2 ^ k = 0 := by
      apply Nat.div_eq_of_lt
      refine Nat.lt_of_lt_of_le (lt_nd (n := x) W2) ?_
      generalize nd W x = m at *
      rw [W_two, ← Nat.pow_mul]; exact Nat.pow_le_pow_right (by omega) (by omega)
    refine (Shr_far A c x k (nd W x) w (by omega) hk).mono ?_
    rintro e w' ⟨rfl, rfl⟩
    rw [h0]
    have e : nd W 0 = 0 := nd_zero _
    have := NumPost.mk (n := 0) (w := w) (w' := w) (A := none) (c := 0) (by rw [e]; exact Nat.le_refl _) (by rw [e]; exact Row.none_) (Below.refl _ _)
    rw [e] at this; exact this
end Go.Proofs.YtjkonfopajihdaaDoor
set_option linter.unusedSimpArgs false
set_option linter.unusedVariables false
namespace Go.Proofs.YtjkonfopajihdaaDoor
open Go Go.RowKit Nt

/-- One step of a row: the product's words, two sums, the word and what is carried. -/
theorem row_words (D v t c : Nat) (hD : D < 18446744073709551616) (hv : v < 18446744073709551616) (ht : t < 18446744073709551616) (hc : c < 18446744073709551616) : ∃ hi lo lo2 c1 hi2 nw c2 cy : Nat,
    (∀ w, Calls Tryd.prog 123 #[.int .u64 (D : Nat), .int .u64 (v : Nat)] w fun e w' => e = .returned (.tuple #[.int .u64 (hi : Nat), .int .u64 (lo : Nat)]) ∧ w = w') ∧
    (∀ w, (callFunc 120 #[.int .u64 (lo : Nat), .int .u64 (t : Nat), .int .u64 0]).run Tryd.prog w = .ok (.value (.tuple #[.int .u64 (lo2 : Nat), .int .u64 (c1 : Nat)])) w) ∧
    IntKind.u64.wrap ((hi : Int) + (c1 : Int)) = (hi2 : Int) ∧
    (∀ w, (callFunc 120 #[.int .u64 (lo2 : Nat), .int .u64 (c : Nat), .int .u64 0]).run Tryd.prog w = .ok (.value (.tuple #[.int .u64 (nw : Nat), .int .u64 (c2 : Nat)])) w) ∧
    IntKind.u64.wrap ((hi2 : Int) + (c2 : Int)) = (cy : Int) ∧
    nw < 18446744073709551616 ∧ cy < 18446744073709551616 ∧ nw + W * cy = D * v + t + c := by
  have hp := prod_lt hD hv
  have h1 := Tryd.bits_Add64 (D * v % 18446744073709551616) t 0 (by omega)
  have h2 := Tryd.bits_Add64 ((D * v % 18446744073709551616 + t + 0) % 18446744073709551616) c 0 (by omega)
  refine ⟨D * v / 18446744073709551616, D * v % 18446744073709551616, (D * v % 18446744073709551616 + t + 0) % 18446744073709551616, (D * v % 18446744073709551616 + t + 0) / 18446744073709551616,
    D * v / 18446744073709551616 + (D * v % 18446744073709551616 + t + 0) / 18446744073709551616, ((D * v % 18446744073709551616 + t + 0) % 18446744073709551616 + c + 0) % 18446744073709551616, ((D * v % 18446744073709551616 + t + 0) % 18446744073709551616 + c + 0) / 18446744073709551616,
    D * v / 18446744073709551616 + (D * v % 18446744073709551616 + t + 0) / 18446744073709551616 + ((D * v % 18446744073709551616 + t + 0) % 18446744073709551616 + c + 0) / 18446744073709551616, ?_, h1, ?_, h2, ?_, ?_, ?_, ?_⟩
  · intro w
    refine (Tryd.bits_Mul64 D v hD hv w).mono ?_
    rintro e w' ⟨rfl, rfl⟩; exact ⟨rfl, rfl⟩
  · refine wadd_nat rfl ?_
    generalize D * v = p at *; omega
  · refine wadd_nat rfl ?_
    generalize D * v = p at *; omega
  · exact Nat.mod_lt _ (by omega)
  · generalize D * v = p at *; omega
  · rw [W_eq]; generalize D * v = p at *; omega
/-- A row, when j words of it stand. -/
def RowOk (V D b k j Z c : Nat) : Prop := Z + W ^ (k + j) * c = V + W ^ k * (D * (b % W ^ j)) ∧ Z < W ^ (k + nd W b) ∧ c < 18446744073709551616
theorem rowok_start {V b k D : Nat} (hV : V < W ^ (k + nd W b)) : RowOk V D b k 0 V 0 := by
  unfold RowOk
  refine ⟨?_, hV, by omega⟩
  rw [Nat.pow_zero, Nat.mod_one, Nat.mul_zero, Nat.mul_zero, Nat.mul_zero]
theorem rowok_step {V D b k j Z c nw cy : Nat} (h : RowOk V D b k j Z c) (hj : j < nd W b) (hn : nw < 18446744073709551616) (hc : cy < 18446744073709551616)
    (he : nw + W * cy = D * dgt W b j + dgt W Z (k + j) + c) : RowOk V D b k (j + 1) (put W Z (k + j) nw) cy := by
  obtain ⟨h1, h2, _⟩ := h
  refine ⟨?_, put_lt W2 (by rw [W_eq]; exact hn) h2 (by omega), hc⟩
  have hp := put_eq Z (k + j) nw W0
  rw [mod_succ, Nat.mul_add D, Nat.mul_add (W ^ k), ← Nat.add_assoc V, ← h1]
  rw [show k + (j + 1) = k + j + 1 by omega, Nat.pow_succ, Nat.mul_assoc]
  have e1 : W ^ k * (D * (W ^ j * dgt W b j)) = W ^ (k + j) * (D * dgt W b j) := by
    rw [Nat.pow_add, Nat.mul_left_comm D, Nat.mul_assoc]
  rw [e1]
  have e2 : W ^ (k + j) * nw + W ^ (k + j) * (W * cy) = W ^ (k + j) * (D * dgt W b j) + W ^ (k + j) * dgt W Z (k + j) + W ^ (k + j) * c := by
    rw [← Nat.mul_add, he, Nat.mul_add, Nat.mul_add]
  omega
theorem rowok_end {a b k Z c : Nat} (h : RowOk (a % W ^ k * b) (dgt W a k) b k (nd W b) Z c) : dgt W Z (k + nd W b) = 0 ∧ put W Z (k + nd W b) c = a % W ^ (k + 1) * b := by
  obtain ⟨h1, h2, _⟩ := h
  have hz := dgt_of_lt W2 h2 (Nat.le_refl _)
  refine ⟨hz, ?_⟩
  rw [put_new _ _ _ W0 hz, h1, Nat.mod_eq_of_lt (lt_nd W2), mod_succ, Nat.add_mul, Nat.mul_assoc]
theorem row_lt {a b k : Nat} : a % W ^ k * b < W ^ (k + nd W b) := by
  rw [Nat.pow_add]
  have h1 := mod_lt_pow W0 a k
  have h2 := lt_nd (n := b) W2
  rcases Nat.eq_zero_or_pos b with h | h
  · subst h; rw [Nat.mul_zero]; exact Nat.mul_pos (Nat.pow_pos W0) (Nat.pow_pos W0)
  · exact Nat.lt_of_lt_of_le ((Nat.mul_lt_mul_right h).2 h1) (Nat.mul_le_mul_left _ (by omega))
/-- A row cut out of words. -/
theorem row_slice (g k n lb : Nat) (h : k + lb ≤ n) : ∃ A : Option Addr, (lb ≠ 0 → A = some ⟨g, k, none⟩) ∧ ∀ w, (Instr.sliceAt 100 (.slice (some ⟨g, 0, none⟩) n n) (some (.int .i64 k)) (some (.int .i64 ((k : Int) + (lb : Int)))) (some (.int .i64 ((k : Int) + (lb : Int))))).run Tryd.prog w = .ok (.slice A lb lb) w := by
  refine ⟨if k + lb = k then some ⟨g, 0, none⟩ else some ⟨g, k, none⟩, fun h0 => by rw [if_neg (by omega)], fun w => ?_⟩
  have e : (((k : Int) + (lb : Int))).toNat = k + lb := by omega
  have ht : Tryd.prog.underlying 100 = some (.slice (Tryd.prog.elem 100)) := by kernel_rfl
  rw [run_sliceAt_slice (h := ht), run_slice_lhm w 100 _ _ _ ht .i64 .i64 .i64 _ _ _ (by omega) (by omega) (by omega) (by omega), e]
  have he : Tryd.prog.elem 100 = 80 := by kernel_rfl
  rw [he, Tryd.sizeOf80 w]
  simp only [Result.andThen, sliced, Int.toNat_natCast]
  rw [show k + lb - k = lb by omega]
  by_cases h1 : k + lb = k
  · rw [if_pos h1, if_pos h1]
  · rw [if_neg h1, if_neg h1, Nat.mul_one]
    simp only [Option.map]
    rw [add_plain0]
set_option maxRecDepth 100000 in
set_option maxHeartbeats 2000000 in
theorem Mul_c (A A' : Option Addr) (c c' a b B : Nat) (w : World) (hL : nd W a + nd W b ≤ 1000000000) (hr : Row w B A a (nd W a)) (hr' : Row w B A' b (nd W b)) (hBs : B ≤ w.heap.size) :
    Calls Tryd.prog 124 #[.slice A (nd W a) c, .slice A' (nd W b) c'] w (NumPost (a * b) w) := by
  obtain ⟨i0, hi0, hz0, hz1, hz2⟩ := info_parts (P := Tryd.prog) (e := 80) (z := .int .u64 0) (size := 1) (bytes := 8) (by kernel_rfl)
  have HR := Lib.hid hr
  have HR' := Lib.hid hr'
  have HA := Lib.hid (lt_nd (n := a) W2)
  obtain ⟨la, hla⟩ : ∃ la, la = nd W a := ⟨_, rfl⟩
  obtain ⟨lb, hlb⟩ : ∃ lb, lb = nd W b := ⟨_, rfl⟩
  rw [← hla] at HA
  rw [← hla, ← hlb] at hL ⊢
  rw [← hla] at HR
  rw [← hlb] at HR'
  have HLA := Lib.hid hla
  have HLB := Lib.hid hlb
  have hLi : (la : Int) + (lb : Int) ≤ 1000000000 := by omega
  have hlai : (la : Int) ≤ 1000000000 := by omega
  have hlbi : (lb : Int) ≤ 1000000000 := by omega
  clear hr hr' hla hlb
  go_enter Tryd.func124, Tryd.ntmps124
  go_wp2_with (at_make; go_loud (refine wpList_make_zero _ rfl (.tmp 19) (.tmp 19) _ rfl 80 i0 _ Tryd.underlying100 hi0 hz0 hz1 .i64 .i64 _ _ (la + lb) rfl rfl (by omega) (by omega) (by rw [hz2]; omega) (by unfold maxLen; omega) ?_))
  rw [wcells_made]
  have HB0 := Lib.hid (Blk.new w 80 (wcells 0 (la + lb)))
  have hbl : Below w.heap.size w (w.alloc (.cells (wcells 0 (la + lb)) 80)) := (Below.refl _ _).alloc (Nat.le_refl _) _
  generalize w.alloc (.cells (wcells 0 (la + lb)) 80) = w1 at *
  obtain ⟨g, hg⟩ : ∃ g, g = w.heap.size := ⟨_, rfl⟩
  rw [← hg] at HB0 hbl hBs ⊢
  have HG := Lib.hid hg
  clear hg
  go_loopw [23] (fun i wr => ∃ k : Nat, k ≤ la ∧ i = .int .i64 k ∧ Hid (Blk wr g 80 (wcells (a % W ^ k * b) (la + lb))) ∧ Below g w wr) (fun i _ => la - (intOf i).toNat)
  case atStart => exact ⟨0, Nat.zero_le _, rfl, by rw [mod_one, Nat.zero_mul]; exact HB0, hbl⟩
  case round =>
    obtain ⟨k, hk, rfl, hblk, hb⟩ := hrel
    obtain ⟨wo, rfl⟩ : ∃ wo : World, wo = wr := ⟨_, rfl⟩
    by_cases hlt : k < la
    · obtain ⟨ga, rfl, hga, hca⟩ := HR.out.at_ hlt
      have hca2 := (hb.cell (p := ⟨ga, k, none⟩) (by show ga < g; omega)).trans hca
      clear hca
      have hkl : (k : Int) + (lb : Int) ≤ 1000000000 := by omega
      by_cases hz : dgt W a k = 0
      · have hz' := eqz_true hz
        have HB1 := hblk
        rw [show a % W ^ k * b = a % W ^ (k + 1) * b by rw [mod_succ, hz, Nat.mul_zero, Nat.add_zero]] at HB1
        clear hz
        go_wp2
        go_roundw
        case rel => exact ⟨k + 1, by omega, by go_num, HB1, hb⟩
        case measure => simp [intOf]; omega
      · have hz' := eqz_false hz
        have HZ := Lib.hid hz
        have hkk : k + lb ≤ la + lb := by omega
        have HKK := Lib.hid hkk
        obtain ⟨Ar, hAr, hsl⟩ := row_slice g k (la + lb) lb hkk
        have HAr := Lib.hid hAr
        clear hz hkk hAr
        go_wp2
        have hinit := Lib.hid (rowok_start (D := dgt W a k) (row_lt (a := a) (b := b) (k := k)))
        go_loopw [8, 43] (fun cy i wr => ∃ j Z cc : Nat, j ≤ lb ∧ i = .int .i64 j ∧ cy = .int .u64 cc ∧ Hid (RowOk (a % W ^ k * b) (dgt W a k) b k j Z cc) ∧ Hid (Blk wr g 80 (wcells Z (la + lb))) ∧ Below g w wr) (fun _ i _ => lb - (intOf i).toNat)
        case atStart => exact ⟨0, _, 0, Nat.zero_le _, rfl, rfl, hinit, hblk, hb⟩
        case round =>
          obtain ⟨j, Z, cc, hj, rfl, rfl, hok, hblk2, hb2⟩ := hrel
          by_cases hltj : j < lb
          · obtain rfl : Ar = some ⟨g, k, none⟩ := HAr.out (by omega)
            obtain ⟨gb, rfl, hgb, hcb⟩ := HR'.out.at_ hltj
            have hcb2 := (hb2.cell (p := ⟨gb, j, none⟩) (by show gb < g; omega)).trans hcb
            have hfz := hblk2.out.frozen (k + j)
            have hck := hblk2.out.cell (k + j)
            rw [wcells_get _ _ _ (by have := HKK.out; omega)] at hck
            obtain ⟨hi, lo, lo2, c1, hi2, nw, c2, cy, hmul, ha1, hw1, ha2, hw2, hnw, hcy, heq⟩ := row_words (dgt W a k) (dgt W b j) (dgt W Z (k + j)) cc (wd_lt _ _) (wd_lt _ _) (wd_lt _ _) hok.out.2.2
            have HOK := Lib.hid (rowok_step hok.out (by rw [← HLB.out]; exact hltj) hnw hcy heq)
            have HB1 := Lib.hid (hblk2.out.set_ (k + j) (.int .u64 (nw : Nat)))
            rw [wcells_set _ _ _ _ hnw] at HB1
            have hb1 := hb2.setCell (p := ⟨g, k + j, none⟩) (Nat.le_refl _) (.int .u64 (nw : Nat))
            have HM := Lib.hid hmul
            clear hmul hcb heq hnw hcy
            go_wp2_with (first | simp only [ha1] | simp only [ha2] | (go_at_call 123; refine (HM.out _).mono ?_; rintro e w' ⟨rfl, rfl⟩))
            go_roundw
            case rel => exact ⟨j + 1, _, cy, by omega, by go_num, rfl, HOK, HB1, hb1⟩
            case measure => simp [intOf]; omega
          · obtain rfl : j = lb := by omega
            have hr2 := hok.out
            have e1 := rowok_end (a := a) (b := b) (k := k) (Z := Z) (c := cc) (by rw [← HLB.out]; exact hr2)
            rw [← HLB.out] at e1
            have hfz := hblk2.out.frozen (k + j)
            have hck := hblk2.out.cell (k + j)
            rw [wcells_get _ _ _ (by omega)] at hck
            have HB1 := Lib.hid (hblk2.out.set_ (k + j) (.int .u64 (cc : Nat)))
            rw [wcells_set _ _ _ _ hr2.2.2, e1.2] at HB1
            have hb1 := hb2.setCell (p := ⟨g, k + j, none⟩) (Nat.le_refl _) (.int .u64 (cc : Nat))
            have hkj : (k : Int) + (j : Int) < (la : Int) + (j : Int) := by omega
            have hkj2 : k + j < la + j := by omega
            have HLh := Lib.hid hL
            have hk1 : (k : Int) + 1 ≤ 1000000000 := by omega
            have hk2 : (k : Int) ≤ 1000000000 := by omega
            clear hr2 e1 hj hltj hL hLi hlai hlbi hsl
            go_wp2
            go_roundw
            case rel => exact ⟨k + 1, by omega, by go_num, HB1, hb1⟩
            case measure => simp [intOf]; omega
    · obtain rfl : k = la := by omega
      have HB1 := hblk.out
      rw [Nat.mod_eq_of_lt HA.out] at HB1
      have HB1' := Lib.hid HB1
      have hs : a * b < W ^ (k + lb) := by
        have := row_lt (a := a) (b := b) (k := k)
        rw [Nat.mod_eq_of_lt HA.out, ← HLB.out] at this; exact this
      have HS := Lib.hid hs
      clear HB1 hs
      go_wp2_with fail
      refine (Cut_c (some ⟨g, 0, none⟩) (k + lb) (k + lb) _ (g + 1) _ HS.out (Nat.le_refl _) (by omega) (Row.of_blk HB1'.out (by omega))).mono ?_
      rintro e w' ⟨rfl, rfl⟩
      go_wp2
      go_ret
      have hnd := nd_le W2 HS.out
      exact NumPost.mk hnd ((Row.of_blk HB1'.out HB1'.out.lt).less hnd) (by rw [← HG.out]; exact hb)
end Go.Proofs.YtjkonfopajihdaaDoor
set_option linter.unusedSimpArgs false
set_option linter.unusedVariables false
namespace Go.Proofs.YtjkonfopajihdaaDoor
open Go Go.RowKit Nt

/-- The strings that stand at A. -/
def Strs (w : World) (A : Option Addr) (ss : List ByteArray) : Prop := 0 < ss.length → ∃ ad, A = some ad ∧ ∀ j (h : j < ss.length), w.cell? (ad.add j) = some (.string ss[j])
theorem Strs.at_ {w : World} {A : Option Addr} {ss : List ByteArray} (h : Strs w A ss) {k : Nat} (hk : k < ss.length) : ∃ ad, A = some ad ∧ w.cell? (ad.add k) = some (.string ss[k]) := by
  obtain ⟨ad, e, hc⟩ := h (by omega); exact ⟨ad, e, hc k hk⟩
theorem block_of_add' (a : Addr) (n : Nat) : (a.add n).block = a.block := by unfold Addr.add; split <;> rfl
instance (s : ByteArray) : Decidable (May s) := inferInstanceAs (Decidable (_ ∧ _))
@[irreducible] def mayE (ss : List ByteArray) : Int := if ∀ s ∈ ss, May s then 0 else 2
theorem mayE_ok {ss : List ByteArray} (h : ∀ s ∈ ss, May s) : mayE ss = 0 := by unfold mayE; rw [if_pos h]
theorem mayE_no {ss : List ByteArray} {s : ByteArray} (h : s ∈ ss) (hs : ¬ May s) : mayE ss = 2 := by unfold mayE; rw [if_neg (fun c => hs (c s h))]
theorem u8_eqz (x : UInt8) (h : x.toNat = 0) : ((x.toNat : Int) == 0) = true := eqz_true h
theorem u8_nez (x : UInt8) (h : x.toNat ≠ 0) : ((x.toNat : Int) == 0) = false := eqz_false h
set_option maxRecDepth 100000 in
set_option maxHeartbeats 400000 in
theorem all_c (A : Option Addr) (c : Nat) (ss : List ByteArray) (w : World) (hl : ss.length ≤ 9223372036854775807) (h : Strs w A ss) :
    Calls Tryd.prog 97 #[.slice A ss.length c] w fun e w' => e = .returned (.int .i64 (mayE ss)) ∧ w = w' := by
  have HS := Lib.hid h
  clear h
  go_enter Tryd.func97, Tryd.ntmps97
  go_wp2
  go_loop [7] (fun i => ∃ k : Nat, k ≤ ss.length ∧ i = .int .i64 k ∧ Hid (∀ s ∈ ss.take k, May s)) (fun i => ss.length - (intOf i).toNat)
  case atStart => exact ⟨0, Nat.zero_le _, rfl, Lib.hid (by simp)⟩
  case round =>
    obtain ⟨k, hk, rfl, hm⟩ := hrel
    by_cases hlt : k < ss.length
    · obtain ⟨ad, rfl, hc⟩ := HS.out.at_ hlt
      have hmem : ss[k] ∈ ss := List.getElem_mem hlt
      have hnext : May ss[k] → ∀ s ∈ ss.take (k + 1), May s := fun h s hs => by
        rw [List.take_succ_eq_append_getElem hlt, List.mem_append] at hs
        rcases hs with hs | hs
        · exact hm.out s hs
        · rw [List.mem_singleton] at hs; rw [hs]; exact h
      have HM := Lib.hid hmem
      have HN := Lib.hid hnext
      clear hmem hnext
      generalize ss[k] = s at *
      by_cases h1 : 16384 < s.size
      · have HB : Hid (¬ May s) := Lib.hid (fun c => by have := c.1; omega)
        have h1' : decide ((s.size : Int) > 16384) = true := decide_eq_true (by omega)
        have h1'' : (16384 : Int) < (s.size : Int) := by omega
        go_wp2
        go_ret
        exact ⟨ret_int (mayE_no HM.out HB.out).symm, rfl⟩
      · have h1'' : ¬ (16384 : Int) < (s.size : Int) := by omega
        have h1s : s.size ≤ 16384 := by omega
        by_cases h2 : s.size = 0
        · have HG : Hid (May s) := Lib.hid ⟨by omega, fun h => by omega⟩
          have h2' : ¬ (0 : Int) < (s.size : Int) := by omega
          have h2'' : ¬ 0 < s.size := by omega
          have H2 := Lib.hid h2
          clear h2
          go_wp2
          go_round
          case rel => exact ⟨k + 1, by omega, by go_num, Lib.hid (HN.out HG.out)⟩
          case measure => simp [intOf]; omega
        · have h2' : 0 < s.size := by omega
          by_cases h3 : (s[0]'h2').toNat = 0
          · have HB : Hid (¬ May s) := Lib.hid (fun c => c.2 h2' h3)
            have h3' := u8_eqz _ h3
            have H3 := Lib.hid h3
            clear h3
            go_wp2
            go_ret
            exact ⟨ret_int (mayE_no HM.out HB.out).symm, rfl⟩
          · have HG : Hid (May s) := Lib.hid ⟨by omega, fun _ => h3⟩
            have h3' := u8_nez _ h3
            have H3 := Lib.hid h3
            clear h3
            go_wp2
            go_round
            case rel => exact ⟨k + 1, by omega, by go_num, Lib.hid (HN.out HG.out)⟩
            case measure => simp [intOf]; omega
    · obtain rfl : k = ss.length := by omega
      go_wp2
      go_ret
      have := hm.out
      rw [List.take_length] at this
      exact ⟨ret_int (mayE_ok this).symm, rfl⟩
/-- A block of texts. -/
theorem strs_new (w : World) (T : TypeId) (ss : List ByteArray) : Strs (w.alloc (.cells (ss.map Value.string).toArray T)) (some ⟨w.heap.size, 0, none⟩) ss := fun _ =>
  ⟨_, rfl, fun j h => by rw [add_plain0, World.cell?_alloc_new]; simp [h]⟩
set_option maxRecDepth 100000 in
theorem Check_c (s : ByteArray) (w : World) :
    Calls Tryd.prog 59 #[.string s] w fun e w' => e = .returned (.int .i64 (mayE [s])) ∧ Below w.heap.size w w' := by
  go_enter Tryd.func59, Tryd.ntmps59
  go_wp2_with fail
  refine (all_c _ 1 [s] _ (by simp) (strs_new w 22 [s])).mono ?_
  rintro e w' ⟨rfl, rfl⟩
  go_wp2
  go_ret
  exact ⟨rfl, (Below.refl _ _).alloc (Nat.le_refl _) _⟩
theorem words_c (n : Nat) (w : World) (hn : fits n) :
    Calls Tryd.prog 102 #[.string (natS n)] w (NumPost n w) := by
  have hz : (natS n).size ≤ 1000000000 := by rw [natS_size]; unfold fits at hn; omega
  have hr := Read_c (natS n) w hz
  rw [bytesN_natS] at hr
  have HR := Lib.hid hr
  clear hr
  go_enter Tryd.func102, Tryd.ntmps102
  go_wp2_with fail
  refine HR.out.mono ?_
  intro e w' hp
  obtain ⟨A, c, rfl, hc, hrow, hb⟩ := hp.get
  go_wp2
  go_ret
  exact NumPost.mk hc hrow hb
/-- The answer of what makes a number, and its error. -/
@[irreducible] def resS (n : Nat) : ByteArray := if fits n then natS n else ⟨#[]⟩
@[irreducible] def resE (n : Nat) : Int := if fits n then 0 else 4
theorem resS_ok {n : Nat} (h : fits n) : resS n = natS n := by unfold resS; rw [if_pos h]
theorem resE_ok {n : Nat} (h : fits n) : resE n = 0 := by unfold resE; rw [if_pos h]
theorem resS_no {n : Nat} (h : ¬ fits n) : resS n = ⟨#[]⟩ := by unfold resS; rw [if_neg h]
theorem resE_no {n : Nat} (h : ¬ fits n) : resE n = 4 := by unfold resE; rw [if_neg h]
/-- A text and an error; memory below is as it was. -/
def StrPost (s : ByteArray) (r : Int) (w : World) (e : Ending) (w' : World) : Prop := e = .returned (.tuple #[.string s, .int .i64 r]) ∧ Below w.heap.size w w'
@[irreducible] def longB (n : Nat) : Bool := decide (131072 < n)
@[local go_sem] theorem gt_long (n : Nat) : decide ((131072 : Int) < (n : Int)) = longB n := by
  unfold longB; rw [Bool.eq_iff_iff, decide_eq_true_iff, decide_eq_true_iff]; omega
theorem longB_iff (n : Nat) : longB (nd 2 n) = decide (¬ fits n) := by
  unfold longB fits
  have := bits_le n 16384
  rw [Bool.eq_iff_iff, decide_eq_true_iff, decide_eq_true_iff]; omega
set_option maxRecDepth 100000 in
theorem made_c (A : Option Addr) (c n B : Nat) (w : World) (hL : nd W n ≤ 1000000000) (hr : Row w B A n (nd W n)) (hB : B ≤ w.heap.size) :
    Calls Tryd.prog 100 #[.slice A (nd W n) c] w (StrPost (resS n) (resE n) w) := by
  have HR := Lib.hid hr
  clear hr
  by_cases h : fits n
  · have hl : longB (nd 2 n) = false := by rw [longB_iff]; simp [h]
    have HE := Lib.hid (resE_ok h)
    have HS := Lib.hid (resS_ok h)
    go_enter Tryd.func100, Tryd.ntmps100
    go_wp2_with (first | (go_at_call 118; refine (Len_c _ _ _ B _ hL HR.out).mono ?_; rintro e w' ⟨rfl, rfl⟩) | (go_at_call 119; refine (Bytes_c _ _ _ B _ hL HR.out hB).mono ?_; rintro e w' ⟨rfl, hb⟩))
    go_ret2
    exact ⟨by rw [HE.out, HS.out]; rfl, hb⟩
  · have hl : longB (nd 2 n) = true := by rw [longB_iff]; simp [h]
    have HE := Lib.hid (resE_no h)
    have HS := Lib.hid (resS_no h)
    go_enter Tryd.func100, Tryd.ntmps100
    go_wp2_with (first | (go_at_call 118; refine (Len_c _ _ _ B _ hL HR.out).mono ?_; rintro e w' ⟨rfl, rfl⟩))
    go_ret2
    exact ⟨by rw [HE.out, HS.out]; rfl, Below.refl _ _⟩
end Go.Proofs.YtjkonfopajihdaaDoor
set_option linter.unusedSimpArgs false
set_option linter.unusedVariables false
namespace Go.Proofs.YtjkonfopajihdaaDoor
open Go Go.RowKit Nt

@[irreducible] def brB (n : Nat) : Bool := decide (nd 256 n ≤ 8)
@[irreducible] def brN (n : Nat) : Nat := if nd 256 n ≤ 8 then n else 0
theorem brB_yes {n : Nat} (h : nd 256 n ≤ 8) : brB n = true := by unfold brB; exact decide_eq_true h
theorem brB_no {n : Nat} (h : ¬ nd 256 n ≤ 8) : brB n = false := by unfold brB; exact decide_eq_false h
theorem brN_yes {n : Nat} (h : nd 256 n ≤ 8) : brN n = n := by unfold brN; rw [if_pos h]
theorem brN_no {n : Nat} (h : ¬ nd 256 n ≤ 8) : brN n = 0 := by unfold brN; rw [if_neg h]
theorem br_lt {n : Nat} : nd 256 n ≤ 8 ↔ n < 18446744073709551616 := by
  rw [← lt_pow_iff (by omega)]
theorem brN_lt (n : Nat) : brN n < 18446744073709551616 := by
  by_cases h : nd 256 n ≤ 8
  · rw [brN_yes h]; exact br_lt.1 h
  · rw [brN_no h]; omega
/-- The value of the bytes ahead of the place k. -/
@[irreducible] def preN (n k : Nat) : Nat := n / 256 ^ (nd 256 n - k)
theorem preN_zero (n : Nat) : preN n 0 = 0 := by unfold preN; rw [Nat.sub_zero]; exact Nat.div_eq_of_lt (lt_nd (by omega))
theorem preN_full (n : Nat) : preN n (nd 256 n) = n := by unfold preN; rw [Nat.sub_self, Nat.pow_zero, Nat.div_one]
theorem preN_succ (n k : Nat) (h : k < nd 256 n) : preN n (k + 1) = 256 * preN n k + dgt 256 n (nd 256 n - 1 - k) := by
  unfold preN
  obtain ⟨m, hm⟩ : ∃ m, nd 256 n = k + 1 + m := ⟨nd 256 n - k - 1, by omega⟩
  rw [hm, show k + 1 + m - (k + 1) = m by omega, show k + 1 + m - k = m + 1 by omega, show k + 1 + m - 1 - k = m by omega, div_eq_dgt (by omega) n m, Nat.add_comm]
theorem preN_le (n k : Nat) : preN n k ≤ n := by unfold preN; exact Nat.div_le_self _ _
set_option maxRecDepth 100000 in
set_option maxHeartbeats 400000 in
theorem brief_c (n : Nat) (w : World) (hf : fits n) :
    Calls Tryd.prog 122 #[.string (natS n)] w fun e w' => e = .returned (.tuple #[.int .u64 (brN n : Nat), .bool (brB n)]) ∧ w = w' := by
  have hsz := natS_size n
  unfold fits at hf
  by_cases h : nd 256 n ≤ 8
  · have HB := Lib.hid (brB_yes h)
    have HN := Lib.hid (brN_yes h)
    have hlt8 : n < 18446744073709551616 := br_lt.1 h
    have HL := Lib.hid hlt8
    have h8 : ¬ 8 < nd 256 n := by omega
    clear hlt8
    go_enter Tryd.func122, Tryd.ntmps122
    go_wp2
    go_loop [2, 10] (fun v i => ∃ k : Nat, k ≤ nd 256 n ∧ i = .int .i64 k ∧ v = .int .u64 (preN n k : Nat)) (fun _ i => nd 256 n - (intOf i).toNat)
    case atStart => exact ⟨0, Nat.zero_le _, rfl, by rw [preN_zero]; rfl⟩
    case round =>
      obtain ⟨k, hk, rfl, rfl⟩ := hrel
      by_cases hlt : k < nd 256 n
      · have hks : k < (natS n).size := by omega
        have e := natS_get n k hks
        have es := preN_succ n k hlt
        have hp1 := preN_le n (k + 1)
        have hHL := HL.out
        have hv : bits .or .u64 (IntKind.u64.wrap ((preN n k : Nat) * 256)) (IntKind.u64.wrap (((natS n)[k].toNat : Nat) : Int)) = ((preN n (k + 1) : Nat) : Int) := by
          have hb := (natS n)[k].toNat_lt
          have e1 : IntKind.u64.wrap ((preN n k : Nat) * 256) = ((256 * preN n k : Nat) : Int) := by rw [IntKind.wrap_u64]; omega
          have e2 : IntKind.u64.wrap (((natS n)[k].toNat : Nat) : Int) = (((natS n)[k].toNat : Nat) : Int) := by rw [IntKind.wrap_u64]; omega
          rw [e1, e2, bits_or_u64_nat _ _ (by omega) (by omega), es, ← e]
          have := or_hi (preN n k) (natS n)[k].toNat 8 hb
          exact congrArg Int.ofNat this
        have HV := Lib.hid hv
        have E := Lib.hid e
        have ES := Lib.hid es
        clear e es hv hp1 hHL
        go_wp2
        go_round
        case rel => exact ⟨k + 1, by omega, by go_num, by rw [HV.out]⟩
        case measure => simp [intOf]; omega
      · obtain rfl : k = nd 256 n := by omega
        rw [preN_full]
        go_wp2
        go_ret2
        exact ⟨by rw [HB.out, HN.out]; rfl, rfl⟩
  · have HB := Lib.hid (brB_no h)
    have HN := Lib.hid (brN_no h)
    have h8 : 8 < nd 256 n := by omega
    go_enter Tryd.func122, Tryd.ntmps122
    go_wp2
    go_ret2
    exact ⟨by rw [HB.out, HN.out]; rfl, rfl⟩
/-- The cells of the array when k bytes stand at its end. -/
def ofF (n k j : Nat) : Nat := if 8 - k ≤ j ∧ j < 8 then dgt 256 n (7 - j) else 0
theorem ofF_step (n k i j : Nat) (h : i + (k + 1) = 8) (hj : j < 8) : (if j = i then dgt 256 n k else ofF n k j) = ofF n (k + 1) j := by
  unfold ofF
  by_cases h1 : j = i
  · rw [if_pos h1, if_pos (by omega)]; congr 1; omega
  · rw [if_neg h1]
    by_cases h2 : 8 - k ≤ j ∧ j < 8
    · rw [if_pos h2, if_pos (by omega)]
    · rw [if_neg h2, if_neg (by omega)]
theorem add_plainO (g k j : Nat) : (⟨g, k, none⟩ : Addr).add j = ⟨g, k + j, none⟩ := by
  unfold Addr.add; split
  · rename_i h; subst h; rfl
  · simp
theorem neqz_true {x : Nat} (h : x ≠ 0) : (((x : Nat) : Int) != 0) = true := by rw [bne_iff_ne]; omega
theorem neqz_false {x : Nat} (h : x = 0) : (((x : Nat) : Int) != 0) = false := by subst h; rfl
theorem arr_slice (g j : Nat) (h : j ≤ 8) : ∃ A : Option Addr, ((8 - j ≠ 0 → A = some ⟨g, j, none⟩) ∧ ∃ ad, A = some ad) ∧ ∀ w, (Instr.sliceAt 113 (.pointer (some ⟨g, 0, none⟩)) (some (.int .i64 j)) none none).run Tryd.prog w = .ok (.slice A (8 - j) (8 - j)) w := by
  refine ⟨if 8 = j then some ⟨g, 0, none⟩ else some ⟨g, j, none⟩, ⟨fun h0 => by rw [if_neg (by omega)], by split <;> exact ⟨_, rfl⟩⟩, fun w => ?_⟩
  have hal : Tryd.prog.arrayLen 113 = 8 := by kernel_rfl
  have ht : Tryd.prog.underlying 113 = some (.array (Tryd.prog.arrayLen 113) (Tryd.prog.elem 113)) := by kernel_rfl
  have he : Tryd.prog.elem 113 = 5 := by kernel_rfl
  rw [run_sliceAt_array_l w 113 ⟨g, 0, none⟩ ht .i64 _ (by omega) (by rw [hal]; omega), he, Tryd.sizeOf5 w, hal]
  simp only [Result.andThen, slicedAt, Int.toNat_natCast]
  by_cases h1 : 8 = j
  · rw [if_pos h1, if_pos h1]
  · rw [if_neg h1, if_neg h1, Nat.mul_one, add_plain0]
set_option maxRecDepth 100000 in
set_option maxHeartbeats 400000 in
theorem Of_n (n : Nat) (w : World) (hn : n < 18446744073709551616) :
    Calls Tryd.prog 62 #[.int .u64 (n : Nat)] w fun e w' => e = .returned (.string (natS n)) ∧ Below w.heap.size w w' := by
  have H8 := Lib.hid (br_lt.2 hn)
  have HN := Lib.hid hn
  clear hn
  go_enter Tryd.func62, Tryd.ntmps62
  go_wp2
  have h0 : (#[Value.int IntKind.u8 0, Value.int IntKind.u8 0, Value.int IntKind.u8 0, Value.int IntKind.u8 0, Value.int IntKind.u8 0, Value.int IntKind.u8 0, Value.int IntKind.u8 0, Value.int IntKind.u8 0] : Array Value) = fcells .u8 (ofF n 0) 8 := by
    rw [fcells_congr (f' := fun _ => 0) (fun j hj => by unfold ofF; rw [if_neg (by omega)])]; rfl
  rw [h0]
  have HB0 := Lib.hid (Blk.new w 113 (fcells .u8 (ofF n 0) 8))
  have hbl : Below w.heap.size w (w.alloc (.cells (fcells .u8 (ofF n 0) 8) 113)) := (Below.refl _ _).alloc (Nat.le_refl _) _
  generalize w.alloc (.cells (fcells .u8 (ofF n 0) 8) 113) = w1 at *
  obtain ⟨g, hg⟩ : ∃ g, g = w.heap.size := ⟨_, rfl⟩
  rw [← hg] at HB0 hbl ⊢
  have HG := Lib.hid hg
  clear hg h0
  go_loopw [0, 4] (fun x i wr => ∃ (k m j : Nat), x = .int .u64 m ∧ i = .int .i64 j ∧ Hid (j + k = 8) ∧ Hid (m = n / 256 ^ k) ∧ Hid (k ≤ nd 256 n) ∧ Hid (Blk wr g 113 (fcells .u8 (ofF n k) 8)) ∧ Below g w wr) (fun _ i _ => (intOf i).toNat)
  case atStart => exact ⟨0, n, 8, rfl, rfl, Lib.hid rfl, Lib.hid (by rw [Nat.pow_zero, Nat.div_one]), Lib.hid (Nat.zero_le _), HB0, hbl⟩
  case round =>
    obtain ⟨k, m, j, rfl, rfl, hj, hm, hk, hblk, hb⟩ := hrel
    by_cases h0 : m = 0
    · have hz := neqz_false h0
      have hnd : nd 256 n = k := by
        have h1 := hm.out
        rw [h0] at h1
        have h2 : n < 256 ^ k := by
          rcases Nat.lt_or_ge n (256 ^ k) with h | h
          · exact h
          · have := Nat.div_pos h (Nat.pow_pos (n := k) (show 0 < 256 by omega)); omega
        have := nd_le (b := 256) (by omega) h2
        have := hk.out; omega
      have HND := Lib.hid hnd
      obtain ⟨A, hA, hsl⟩ := arr_slice g j (by have := hj.out; omega)
      have hcv : ∀ W, W = wr → (convert 114 22 (.slice A (8 - j) (8 - j))).run Tryd.prog W = .ok (.string (natS n)) W := by
        rintro W rfl
        have hl : ((dl 256 n (nd 256 n)).reverse.map UInt8.ofNat).length = 8 - j := by simp [dl_length, hnd]; have := hj.out; omega
        rcases Nat.eq_zero_or_pos k with hk0 | hk0
        · have e0 : (dl 256 n (nd 256 n)).reverse.map UInt8.ofNat = [] := by rw [hnd, hk0]; rfl
          have h8 : 8 - j = 0 := by have := hj.out; omega
          obtain ⟨ad, rfl⟩ := hA.2
          have h := run_convert_bytes_back (P := Tryd.prog) W 114 22 5 ad (8 - j) ((dl 256 n (nd 256 n)).reverse.map UInt8.ofNat) Tryd.underlying114 Tryd.underlying5 Tryd.underlying22 (fun i hi => by rw [hl] at hi; omega)
          rw [hl, ← natS_def] at h
          exact h
        · obtain rfl := hA.1 (by have := hj.out; omega)
          have h := run_convert_bytes_back (P := Tryd.prog) W 114 22 5 ⟨g, j, none⟩ (8 - j) ((dl 256 n (nd 256 n)).reverse.map UInt8.ofNat) Tryd.underlying114 Tryd.underlying5 Tryd.underlying22 (fun i hi => by
            have hi' : i < 8 - j := by rw [← hl]; exact hi
            rw [add_plainO, hblk.out.cell, fcells_get _ _ _ _ (by omega)]
            have e := natS_get n i (by rw [natS_size, hnd]; have := hj.out; omega)
            rw [ba_get] at e
            simp only [natS_def] at e
            rw [List.getElem_toArray] at e
            rw [e]
            unfold ofF
            have hj' := hj.out
            rw [if_pos (by omega), hnd, show 7 - (j + i) = k - 1 - i by omega])
          rw [hl, ← natS_def] at h
          exact h
      have hcv' := hcv wr rfl
      have hmz := Lib.hid h0
      clear hcv h0 hnd
      go_wp2
      go_ret
      exact ⟨rfl, by rw [← HG.out]; exact hb⟩
    · have hz := neqz_true h0
      have hnd : k < nd 256 n := by
        rcases Nat.lt_or_ge k (nd 256 n) with h | h
        · exact h
        · have := (lt_pow_iff (b := 256) (by omega) k n).2 h
          have h2 := hm.out
          rw [Nat.div_eq_of_lt this] at h2; omega
      obtain ⟨i, hi⟩ : ∃ i, j = i + 1 := ⟨j - 1, by have := hj.out; have := H8.out; omega⟩
      subst hi
      have hi8 : i < 8 := by have := hj.out; omega
      have hij : ((i : Int) + 1) - 1 = (i : Int) := by omega
      have hfz := hblk.out.frozen i
      have hck := hblk.out.cell i
      rw [fcells_get _ _ _ _ hi8] at hck
      have hv : IntKind.u8.wrap (m : Int) = ((dgt 256 n k : Nat) : Int) := by rw [wrap_u8, hm.out, dgt_def]
      have hm2 : (m : Int) / 256 = ((m / 256 : Nat) : Int) := by omega
      obtain ⟨m', hm'⟩ : ∃ m', m' = m / 256 := ⟨_, rfl⟩
      rw [← hm'] at hm2
      have HM' : Hid (m' = n / 256 ^ (k + 1)) := Lib.hid (by rw [hm', hm.out, Nat.pow_succ, Nat.div_div_eq_div_mul])
      have HB1 := Lib.hid (hblk.out.set_ i (.int .u8 (dgt 256 n k : Nat)))
      rw [fcells_set, fcells_congr (f' := ofF n (k + 1)) (fun x hx => ofF_step n k i x (by have := hj.out; omega) hx)] at HB1
      have hb1 := hb.setCell (p := ⟨g, i, none⟩) (Nat.le_refl _) (.int .u8 (dgt 256 n k : Nat))
      have HJ : Hid (i + (k + 1) = 8) := Lib.hid (by have := hj.out; omega)
      have HK : Hid (k + 1 ≤ nd 256 n) := Lib.hid (by omega)
      clear h0 hnd hm'
      go_wp2
      go_roundw
      case rel => exact ⟨k + 1, m', i, rfl, rfl, HJ, HM', HK, HB1, hb1⟩
      case measure => simp [intOf]
end Go.Proofs.YtjkonfopajihdaaDoor
set_option linter.unusedSimpArgs false
set_option linter.unusedVariables false
namespace Go.Proofs.YtjkonfopajihdaaDoor
open Go Go.RowKit Nt

/-! The order of texts. -/
def bvL (l : List UInt8) : Nat := of 256 (l.reverse.map UInt8.toNat)
theorem bvL_cons (x : UInt8) (l : List UInt8) : bvL (x :: l) = bvL l + 256 ^ l.length * x.toNat := by
  unfold bvL
  rw [List.reverse_cons, List.map_append, of_append]
  simp [of_cons, of_nil]
theorem bvL_lt (l : List UInt8) : bvL l < 256 ^ l.length := by
  have := of_lt (b := 256) (by omega) (l.reverse.map UInt8.toNat) (fun x hx => by obtain ⟨y, _, rfl⟩ := List.mem_map.1 hx; exact y.toNat_lt)
  rwa [List.length_map, List.length_reverse] at this
theorem bytesLess_iff : ∀ (l m : List UInt8), l.length = m.length → Op.bytesLess l m = decide (bvL l < bvL m)
  | [], [], _ => by simp [Op.bytesLess, bvL]
  | [], _ :: _, h => by simp at h
  | _ :: _, [], h => by simp at h
  | x :: l, y :: m, h => by
    have hl : l.length = m.length := by simpa using h
    have ih := bytesLess_iff l m hl
    have h1 := bvL_lt l
    have h2 := bvL_lt m
    rw [Op.bytesLess, ih, bvL_cons, bvL_cons, hl]
    rw [hl] at h1
    rw [Bool.eq_iff_iff, Bool.or_eq_true, Bool.and_eq_true, decide_eq_true_iff, decide_eq_true_iff, beq_iff_eq, decide_eq_true_iff, UInt8.lt_iff_toNat_lt]
    rcases Nat.lt_trichotomy x.toNat y.toNat with h3 | h3 | h3
    · have : 256 ^ m.length * (x.toNat + 1) ≤ 256 ^ m.length * y.toNat := Nat.mul_le_mul_left _ h3
      rw [Nat.mul_add] at this
      exact ⟨fun _ => by omega, fun _ => Or.inl h3⟩
    · have e : x = y := UInt8.toNat_inj.1 h3
      subst e
      constructor
      · rintro (h | ⟨_, h⟩)
        · omega
        · omega
      · intro h; exact Or.inr ⟨rfl, by omega⟩
    · have : 256 ^ m.length * (y.toNat + 1) ≤ 256 ^ m.length * x.toNat := Nat.mul_le_mul_left _ h3
      rw [Nat.mul_add] at this
      constructor
      · rintro (h | ⟨h, _⟩)
        · omega
        · subst h; omega
      · intro h; omega
theorem ba_toList (s : ByteArray) : s.toList = s.data.toList := Go.ByteArray.toList_eq s
theorem natS_less (a b : Nat) (h : nd 256 a = nd 256 b) : Op.bytesLess (natS a).toList (natS b).toList = decide (a < b) := by
  have e : ∀ n, bvL (natS n).toList = n := fun n => by rw [ba_toList]; exact bytesN_natS n
  have hl : (natS a).toList.length = (natS b).toList.length := by
    rw [ba_toList, ba_toList, Array.length_toList, Array.length_toList]
    exact (natS_size a).trans (h.trans (natS_size b).symm)
  rw [bytesLess_iff _ _ hl, e, e]
theorem natS_list_eq (a b : Nat) : (natS a).toList = (natS b).toList ↔ a = b := by
  constructor
  · intro h
    rw [ba_toList, ba_toList] at h
    exact natS_inj (ByteArray.ext (Array.toList_inj.1 h))
  · rintro rfl; rfl
theorem isNaN_nat (s : ByteArray) (w : World) :
    Calls Tryd.prog 136 #[.string s] w fun e w' => e = .returned (.bool false) ∧ w = w' := by
  go_enter Tryd.func136, Tryd.ntmps136
  go_wp2
  go_ret
  exact ⟨rfl, rfl⟩
set_option maxRecDepth 100000 in
theorem Compare_nat (a b : Nat) (w : World) (h : nd 256 a = nd 256 b) :
    Calls Tryd.prog 132 #[.string (natS a), .string (natS b)] w fun e w' => e = .returned (.int .i64 (cmpN a b)) ∧ w = w' := by
  have h1 := natS_less a b h
  have h2 : ((natS a).toList == (natS b).toList) = decide (a = b) := by
    rw [Bool.eq_iff_iff, beq_iff_eq, decide_eq_true_iff, natS_list_eq]
  rcases Nat.lt_trichotomy a b with hlt | heq | hgt
  · have e1 : decide (a < b) = true := decide_eq_true hlt
    rw [e1] at h1
    have HC := Lib.hid (cmpN_lt hlt)
    clear h2 hlt
    go_enter Tryd.func132, Tryd.ntmps132
    go_wp2_with (go_at_call 136; refine (isNaN_nat _ _).mono ?_; rintro e w' ⟨rfl, rfl⟩)
    go_ret
    exact ⟨ret_int HC.out.symm, rfl⟩
  · subst heq
    have e1 : decide (a < a) = false := decide_eq_false (by omega)
    rw [e1] at h1
    have HC := Lib.hid (cmpN_eq a)
    clear h2
    go_enter Tryd.func132, Tryd.ntmps132
    go_wp2_with (go_at_call 136; refine (isNaN_nat _ _).mono ?_; rintro e w' ⟨rfl, rfl⟩)
    go_ret
    exact ⟨ret_int HC.out.symm, rfl⟩
  · have e1 : decide (a < b) = false := decide_eq_false (by omega)
    have e2 : decide (a = b) = false := decide_eq_false (by omega)
    rw [e1] at h1
    rw [e2] at h2
    have h3 : ¬ (natS a).toList = (natS b).toList := fun c => by rw [natS_list_eq] at c; omega
    have HC := Lib.hid (cmpN_gt hgt)
    clear e1 e2
    go_enter Tryd.func132, Tryd.ntmps132
    go_wp2_with (go_at_call 136; refine (isNaN_nat _ _).mono ?_; rintro e w' ⟨rfl, rfl⟩)
    go_ret
    exact ⟨ret_int HC.out.symm, rfl⟩
theorem may2 {a b : Nat} (ha : fits a) (hb : fits b) : mayE [natS a, natS b] = 0 := mayE_ok (fun s hs => by
  rcases List.mem_cons.1 hs with rfl | hs
  · exact (may_natS a).2 ha
  · rw [List.mem_singleton.1 hs]; exact (may_natS b).2 hb)
theorem may1 {a : Nat} (ha : fits a) : mayE [natS a] = 0 := mayE_ok (fun s hs => by rw [List.mem_singleton.1 hs]; exact (may_natS a).2 ha)
theorem may1_no {s : ByteArray} (h : ¬ May s) : mayE [s] = 2 := mayE_no (List.mem_singleton.2 rfl) h
theorem may2_no {s t : ByteArray} (h : ¬ (May s ∧ May t)) : mayE [s, t] = 2 := by
  by_cases h1 : May s
  · exact mayE_no (s := t) (by simp) (fun c => h ⟨h1, c⟩)
  · exact mayE_no (s := s) (by simp) h1
set_option maxRecDepth 100000 in
theorem Small_c (n : Nat) (w : World) (hf : fits n) :
    Calls Tryd.prog 108 #[.string (natS n)] w fun e w' => e = .returned (.tuple #[.int .u64 (brN n : Nat), .bool (brB n)]) ∧ Below w.heap.size w w' := by
  have hm := may1 hf
  go_enter Tryd.func108, Tryd.ntmps108
  go_wp2_with (first | (go_at_call 59; refine (Check_c _ _).mono ?_; rintro e w1 ⟨rfl, hb⟩) | (go_at_call 122; refine (brief_c n _ hf).mono ?_; rintro e w' ⟨rfl, rfl⟩))
  go_ret2
  exact ⟨rfl, hb⟩
set_option maxRecDepth 100000 in
theorem Small_no (s : ByteArray) (w : World) (h : ¬ May s) :
    Calls Tryd.prog 108 #[.string s] w fun e w' => e = .returned (.tuple #[.int .u64 0, .bool false]) ∧ Below w.heap.size w w' := by
  have hm := may1_no h
  go_enter Tryd.func108, Tryd.ntmps108
  go_wp2_with (first | (go_at_call 59; refine (Check_c _ _).mono ?_; rintro e w1 ⟨rfl, hb⟩))
  go_ret2
  exact ⟨rfl, hb⟩
/-- Two integers and memory below as it was. -/
def IntPost (a b : Int) (w : World) (e : Ending) (w' : World) : Prop := e = .returned (.tuple #[.int .i64 a, .int .i64 b]) ∧ Below w.heap.size w w'
set_option maxRecDepth 100000 in
theorem Cmp_no (s t : ByteArray) (w : World) (h : ¬ (May s ∧ May t)) :
    Calls Tryd.prog 112 #[.string s, .string t] w (IntPost 0 2 w) := by
  have hm := may2_no h
  go_enter Tryd.func112, Tryd.ntmps112
  go_wp2_with (first | (go_at_call 97; refine (all_c _ 2 [s, t] _ (by simp) (strs_new w 22 [s, t])).mono ?_; rintro e w' ⟨rfl, rfl⟩))
  go_ret2
  exact ⟨rfl, (Below.refl _ _).alloc (Nat.le_refl _) _⟩
theorem compareInt_nd (a b : Nat) (h : nd 256 a ≠ nd 256 b) : Go.Lib.compareInt (nd 256 a : Nat) (nd 256 b : Nat) = cmpN a b := by
  unfold Go.Lib.compareInt
  rcases Nat.lt_or_gt_of_ne h with h1 | h1
  · rw [if_pos (by omega), cmpN_lt (lt_of_nd (by omega) h1)]
  · rw [if_neg (by omega), if_pos (by omega), cmpN_gt (lt_of_nd (by omega) h1)]
set_option maxRecDepth 100000 in
theorem NCmp_c (a b : Nat) (w : World) (ha : fits a) (hb : fits b) :
    Calls Tryd.prog 112 #[.string (natS a), .string (natS b)] w (IntPost (cmpN a b) 0 w) := by
  have hm := may2 ha hb
  have hsa := natS_size a
  have hsb := natS_size b
  by_cases h : nd 256 a = nd 256 b
  · have hz : ((nd 256 a : Int) != (nd 256 b : Int)) = false := by rw [h]; simp
    have H := Lib.hid h
    clear h
    go_enter Tryd.func112, Tryd.ntmps112
    go_wp2_with (first | (go_at_call 97; refine (all_c _ 2 [natS a, natS b] _ (by simp) (strs_new w 22 [natS a, natS b])).mono ?_; rintro e w' ⟨rfl, rfl⟩) | (go_at_call 132; refine (Compare_nat a b _ H.out).mono ?_; rintro e w' ⟨rfl, rfl⟩))
    go_ret2
    exact ⟨rfl, (Below.refl _ _).alloc (Nat.le_refl _) _⟩
  · have hz : ((nd 256 a : Int) != (nd 256 b : Int)) = true := by rw [bne_iff_ne]; omega
    have H := Lib.hid (compareInt_nd a b h)
    clear h
    go_enter Tryd.func112, Tryd.ntmps112
    go_wp2_with (first | (go_at_call 97; refine (all_c _ 2 [natS a, natS b] _ (by simp) (strs_new w 22 [natS a, natS b])).mono ?_; rintro e w' ⟨rfl, rfl⟩) | (go_at_call 131; refine (Tryd.cmp_Compare_int _ _ _).mono ?_; rintro e w' ⟨rfl, rfl⟩))
    go_ret2
    exact ⟨by rw [← H.out]; rfl, (Below.refl _ _).alloc (Nat.le_refl _) _⟩
end Go.Proofs.YtjkonfopajihdaaDoor
set_option linter.unusedSimpArgs false
set_option linter.unusedVariables false
namespace Go.Proofs.YtjkonfopajihdaaDoor
open Go Go.RowKit Nt

theorem fits_words {n : Nat} (h : fits n) : nd W n ≤ 2048 := by
  unfold fits at h; rw [← words_bytes]; omega
theorem sum_words {a b : Nat} {m : Nat} (ha : nd W a ≤ m) (hb : nd W b ≤ m) : nd W (a + b) ≤ m + 1 := by
  refine nd_le W2 ?_
  have h1 := (lt_pow_iff W2 m a).2 ha
  have h2 := (lt_pow_iff W2 m b).2 hb
  rw [Nat.pow_succ]
  have h3 : 2 * W ^ m ≤ W ^ m * W := by rw [Nat.mul_comm]; exact Nat.mul_le_mul_left _ W2
  omega
theorem mul_words (a b : Nat) : nd W (a * b) ≤ nd W a + nd W b := by
  refine nd_le W2 ?_
  rw [Nat.pow_add]
  have h1 := lt_nd (n := a) W2
  have h2 := lt_nd (n := b) W2
  rcases Nat.eq_zero_or_pos b with h | h
  · subst h; rw [Nat.mul_zero]; exact Nat.mul_pos (Nat.pow_pos W0) (Nat.pow_pos W0)
  · exact Nat.lt_of_lt_of_le ((Nat.mul_lt_mul_right h).2 h1) (Nat.mul_le_mul_left _ (by omega))
/-- Do two brief numbers have a brief sum? -/
@[irreducible] def bsB (a b : Nat) : Bool := brB a && brB b && decide (a + b < 18446744073709551616)
@[irreducible] def bsS (a b : Nat) : ByteArray := if bsB a b = true then natS (a + b) else ⟨#[]⟩
theorem bsB_yes {a b : Nat} (h1 : brB a = true) (h2 : brB b = true) (h3 : a + b < 18446744073709551616) : bsB a b = true := by unfold bsB; rw [h1, h2, decide_eq_true h3]; rfl
theorem bsB_no1 {a b : Nat} (h : brB a = false) : bsB a b = false := by unfold bsB; rw [h]; rfl
theorem bsB_no2 {a b : Nat} (h : brB b = false) : bsB a b = false := by unfold bsB; rw [h, Bool.and_false]; rfl
theorem bsB_no3 {a b : Nat} (h : ¬ a + b < 18446744073709551616) : bsB a b = false := by unfold bsB; rw [decide_eq_false h, Bool.and_false]
theorem bsS_yes {a b : Nat} (h : bsB a b = true) : bsS a b = natS (a + b) := by unfold bsS; rw [if_pos h]
theorem bsS_no {a b : Nat} (h : bsB a b = false) : bsS a b = ⟨#[]⟩ := by unfold bsS; rw [if_neg (by rw [h]; decide)]
theorem brB_true {n : Nat} (h : brB n = true) : nd 256 n ≤ 8 := by unfold brB at h; exact of_decide_eq_true h
/-- A text and a yes or no. -/
def StrBPost (s : ByteArray) (b : Bool) (w : World) (e : Ending) (w' : World) : Prop := e = .returned (.tuple #[.string s, .bool b]) ∧ Below w.heap.size w w'
theorem add_some (a b : Nat) : ∃ s cc : Nat, ∀ w, (callFunc 120 #[.int .u64 (brN a : Nat), .int .u64 (brN b : Nat), .int .u64 0]).run Tryd.prog w = .ok (.value (.tuple #[.int .u64 (s : Nat), .int .u64 (cc : Nat)])) w :=
  ⟨_, _, fun w => Tryd.bits_Add64 (brN a) (brN b) 0 (by omega) w⟩
set_option maxRecDepth 100000 in
theorem briefSum_c (a b : Nat) (w : World) (ha : fits a) (hb : fits b) :
    Calls Tryd.prog 133 #[.string (natS a), .string (natS b)] w (StrBPost (bsS a b) (bsB a b) w) := by
  have hadd0 := fun w => Tryd.bits_Add64 (brN a) (brN b) 0 (by omega) w
  by_cases h1 : brB a = true
  · by_cases h2 : brB b = true
    · have e1 := brN_yes (brB_true h1)
      have e2 := brN_yes (brB_true h2)
      have l1 := br_lt.1 (brB_true h1)
      have l2 := br_lt.1 (brB_true h2)
      by_cases h3 : a + b < 18446744073709551616
      · have hadd : ∀ w, (callFunc 120 #[.int .u64 (brN a : Nat), .int .u64 (brN b : Nat), .int .u64 0]).run Tryd.prog w = .ok (.value (.tuple #[.int .u64 (a + b : Nat), .int .u64 0])) w := fun w => by
          have h := hadd0 w
          rw [show (brN a + brN b + 0) % 18446744073709551616 = a + b by omega, show (brN a + brN b + 0) / 18446744073709551616 = 0 by omega] at h
          exact h
        have HY := Lib.hid (bsB_yes h1 h2 h3)
        have H3 := Lib.hid h3
        clear hadd0 e1 e2 l1 l2 h3
        generalize hs : a + b = s at *
        have HS := Lib.hid hs
        clear hs
        go_enter Tryd.func133, Tryd.ntmps133
        go_wp2_with (first | simp only [hadd] | (go_at_call 122; refine (brief_c _ _ (by assumption)).mono ?_; rintro e w' ⟨rfl, rfl⟩) | (go_at_call 62; refine (Of_n s _ H3.out).mono ?_; rintro e w' ⟨rfl, hb'⟩))
        go_ret2
        exact ⟨by rw [bsS_yes HY.out, HY.out, HS.out]; rfl, hb'⟩
      · have hcar : ∀ w, (callFunc 120 #[.int .u64 (brN a : Nat), .int .u64 (brN b : Nat), .int .u64 0]).run Tryd.prog w = .ok (.value (.tuple #[.int .u64 ((a + b) % 18446744073709551616 : Nat), .int .u64 1])) w := fun w => by
          have h := hadd0 w
          rw [show (brN a + brN b + 0) % 18446744073709551616 = (a + b) % 18446744073709551616 by rw [e1, e2, Nat.add_zero], show (brN a + brN b + 0) / 18446744073709551616 = 1 by omega] at h
          exact h
        have HY := Lib.hid (bsB_no3 h3)
        clear hadd0 e1 e2 l1 l2 h3
        generalize hs : (a + b) % 18446744073709551616 = s at *
        clear hs
        go_enter Tryd.func133, Tryd.ntmps133
        go_wp2_with (first | simp only [hcar] | (go_at_call 122; refine (brief_c _ _ (by assumption)).mono ?_; rintro e w' ⟨rfl, rfl⟩))
        go_ret2
        exact ⟨by rw [bsS_no HY.out, HY.out]; rfl, Below.refl _ _⟩
    · have h2' : brB b = false := by simpa using h2
      have HY := Lib.hid (bsB_no2 (a := a) h2')
      obtain ⟨s, cc, hcar⟩ := add_some a b
      clear hadd0 h2
      go_enter Tryd.func133, Tryd.ntmps133
      go_wp2_with (first | simp only [hcar] | (go_at_call 122; refine (brief_c _ _ (by assumption)).mono ?_; rintro e w' ⟨rfl, rfl⟩))
      go_ret2
      exact ⟨by rw [bsS_no HY.out, HY.out]; rfl, Below.refl _ _⟩
  · have h1' : brB a = false := by simpa using h1
    have HY := Lib.hid (bsB_no1 (b := b) h1')
    obtain ⟨s, cc, hcar⟩ := add_some a b
    clear hadd0 h1
    go_enter Tryd.func133, Tryd.ntmps133
    go_wp2_with (first | simp only [hcar] | (go_at_call 122; refine (brief_c _ _ (by assumption)).mono ?_; rintro e w' ⟨rfl, rfl⟩))
    go_ret2
    exact ⟨by rw [bsS_no HY.out, HY.out]; rfl, Below.refl _ _⟩
end Go.Proofs.YtjkonfopajihdaaDoor
set_option linter.unusedSimpArgs false
set_option linter.unusedVariables false
namespace Go.Proofs.YtjkonfopajihdaaDoor
open Go Go.RowKit Nt

theorem sum_take (l : List Nat) (k : Nat) (h : k < l.length) : (l.take (k + 1)).sum = (l.take k).sum + l[k] := by
  rw [List.take_succ_eq_append_getElem h, List.sum_append]; simp
theorem sum_lt (l : List Nat) (m : Nat) (h : ∀ n ∈ l, n < m) : l.sum ≤ l.length * m := by
  induction l with
  | nil => simp
  | cons x l ih =>
    have h1 := ih (fun n hn => h n (List.mem_cons_of_mem _ hn))
    have h2 := h x (List.mem_cons_self ..)
    rw [List.sum_cons, List.length_cons, Nat.add_mul]; omega
theorem sum_ndm (l : List Nat) (m : Nat) (h : ∀ n ∈ l, nd W n ≤ m) (hl : l.length ≤ 140737488355328) : nd W l.sum ≤ m + 1 := by
  have h1 := sum_lt l (W ^ m) (fun n hn => (lt_pow_iff W2 _ _).2 (h n hn))
  refine nd_le W2 ?_
  rw [Nat.pow_succ]
  refine Nat.lt_of_le_of_lt h1 ?_
  rw [Nat.mul_comm]
  refine (Nat.mul_lt_mul_left (Nat.pow_pos W0)).2 ?_
  rw [W_eq]; omega
theorem sum_nd (l : List Nat) (h : ∀ n ∈ l, fits n) (hl : l.length ≤ 140737488355328) : nd W l.sum ≤ 2049 := sum_ndm l 2048 (fun n hn => fits_words (h n hn)) hl
theorem mem_take {α : Type} {l : List α} {k : Nat} {x : α} (h : x ∈ l.take k) : x ∈ l := List.mem_of_mem_take h
theorem may_all {l : List Nat} (h : ∀ n ∈ l, fits n) : mayE (l.map natS) = 0 := mayE_ok (fun s hs => by
  obtain ⟨n, hn, rfl⟩ := List.mem_map.1 hs; exact (may_natS n).2 (h n hn))
theorem len2 (l : List Nat) (h : l.length = 2) : ∃ a b, l = [a, b] := by
  match l, h with
  | [a, b], _ => exact ⟨a, b, rfl⟩
theorem two_cells {w : World} {A : Option Addr} {l : List Nat} (h2 : l.length = 2) (h : Strs w A (l.map natS)) (hf : ∀ n ∈ l, fits n) (hA : ∀ ad, A = some ad → ad.block < w.heap.size) :
    ∃ (a b : Nat) (ad : Addr), A = some ad ∧ ad.block < w.heap.size ∧ w.cell? ad = some (.string (natS a)) ∧ w.cell? (ad.add 1) = some (.string (natS b)) ∧ fits a ∧ fits b ∧ l.sum = a + b := by
  obtain ⟨a, b, rfl⟩ := len2 l h2
  obtain ⟨ad, rfl, hc0⟩ := h.at_ (k := 0) (by simp)
  obtain ⟨ad', e1, hc1⟩ := h.at_ (k := 1) (by simp)
  obtain rfl : ad = ad' := Option.some.inj e1
  rw [show ad.add 0 = ad by unfold Addr.add; rw [if_pos rfl]] at hc0
  exact ⟨a, b, ad, rfl, hA ad rfl, hc0, hc1, hf a (by simp), hf b (by simp), by simp⟩
theorem bsB_res {a b : Nat} (h : bsB a b = true) : resS (a + b) = natS (a + b) ∧ resE (a + b) = 0 := by
  have hs : a + b < 18446744073709551616 := by
    unfold bsB at h
    rw [Bool.and_eq_true, Bool.and_eq_true, decide_eq_true_iff] at h
    exact h.2
  have hf : fits (a + b) := by have := br_lt.2 hs; unfold fits; omega
  exact ⟨resS_ok hf, resE_ok hf⟩
/-- What stands in the strings' world. -/
def SB (w w' : World) : Prop := Below w.heap.size w w'
theorem SB_step {w w1 w2 : World} (h : SB w w1) (h2 : Below w1.heap.size w1 w2) : SB w w2 := Below.trans h (h2.mono h.size)
theorem SB_any {w w' : World} (h : SB w w') (n : Nat) : SB w (w'.drewN n) := below_drewN h n
set_option maxRecDepth 100000 in
set_option maxHeartbeats 1000000 in
theorem Sum_c (A : Option Addr) (c : Nat) (l : List Nat) (w : World) (hl : l.length ≤ 140737488355328) (hf : ∀ n ∈ l, fits n) (h : Strs w A (l.map natS)) (hA : ∀ ad, A = some ad → ad.block < w.heap.size) :
    Calls Tryd.prog 126 #[.slice A l.length c] w (StrPost (resS l.sum) (resE l.sum) w) := by
  have HS := Lib.hid h
  have HF := Lib.hid hf
  have HA := Lib.hid hA
  have hm := may_all hf
  have HL := Lib.hid hl
  have hl1 : l.length ≤ 9223372036854775807 := by omega
  have hall := all_c A c (l.map natS) w (by rw [List.length_map]; exact hl1) h
  rw [List.length_map, hm] at hall
  have HALL := Lib.hid hall
  clear h hf hA hall hm
  go_enter Tryd.func126, Tryd.ntmps126
  go_upto_if 17 with (go_at_call 97; refine HALL.out.mono ?_; rintro e w' ⟨rfl, rfl⟩)
  go_cut [] (fun wc => Below w.heap.size w wc)
  case first =>
    by_cases h2 : l.length = 2
    · obtain ⟨a, b, ad, rfl, hbk, hc0, hc1, ha, hb, hsum⟩ := two_cells h2 HS.out HF.out HA.out
      have hz : ((l.length : Int) == 2) = true := by rw [h2]; rfl
      have L0 : ∀ w', SB w w' → w'.cell? ad = some (.string (natS a)) := fun w' h => (Below.cell h (p := ad) hbk).trans hc0
      have L1 : ∀ w', SB w w' → w'.cell? ⟨ad.block, ad.off + 1, none⟩ = some (.string (natS b)) := fun w' h => (Below.cell h (p := ad.add 1) (by rw [block_of_add']; exact hbk)).trans hc1
      have L2 : SB w w.drew := (Below.refl _ _).drew
      have HSUM := Lib.hid hsum
      have H2 := Lib.hid h2
      have hle : (1 : Int) < (l.length : Int) := by omega
      have hle2 : 1 < l.length := by omega
      have hle0 : 0 < l.length := by omega
      have hle3 : (0 : Int) < (l.length : Int) := by omega
      clear hc0 hc1 hsum h2
      have hbs := briefSum_c a b
      have HBS := Lib.hid hbs
      clear hbs
      go_wp2_with fail
      go_region_held3 (SB w) (first | assumption | exact SB_step (by assumption) (by assumption) | exact SB_any (by assumption) _)
        (first
          | (go_at_call 133; refine (HBS.out _ (by assumption) (by assumption)).mono ?_; rintro e w' ⟨rfl, hb2⟩))
      rename_i hHeld
      have hsb : SB w _ := hHeld
      have HSB := Lib.hid hsb
      clear L0 L1 L2 hsb hHeld
      by_cases hB : bsB a b = true
      · have HB := Lib.hid hB
        rw [hB]
        clear hB
        go_wp2_with fail
        go_ret2
        obtain ⟨e1, e2⟩ := bsB_res HB.out
        refine ⟨?_, HSB.out⟩
        rw [bsS_yes HB.out, HSUM.out, e1, e2]; rfl
      · have hB' : bsB a b = false := by simpa using hB
        rw [hB']
        clear hB hB'
        go_wp2_with fail
        go_meet
        exact HSB.out
    · have hz : ((l.length : Int) == 2) = false := by rw [beq_eq_false_iff_ne]; omega
      go_wp2_with fail
      go_meet
      exact Below.refl _ _
  case rest =>
    have hb0 := hcut
    go_wp2
    go_loopw [7, 32] (fun x i wr => ∃ (k : Nat) (A' : Option Addr) (c' : Nat), k ≤ l.length ∧ i = .int .i64 k ∧ x = .slice A' (nd W (l.take k).sum) c' ∧ nd W (l.take k).sum ≤ c' ∧ Hid (Row wr wr.heap.size A' (l.take k).sum (nd W (l.take k).sum)) ∧ Below w.heap.size w wr) (fun _ i _ => l.length - (intOf i).toNat)
    case atStart =>
      have e : nd W 0 = 0 := nd_zero _
      exact ⟨0, none, 0, Nat.zero_le _, rfl, by rw [List.take_zero, List.sum_nil, e], by rw [List.take_zero, List.sum_nil, e]; exact Nat.le_refl _, by rw [List.take_zero, List.sum_nil, e]; exact Lib.hid Row.none_, hb0⟩
    case round =>
      obtain ⟨k, A', c', hk, rfl, rfl, hc, hrow, hb⟩ := hrel
      by_cases hlt : k < l.length
      · obtain ⟨ad, rfl, hcell⟩ := HS.out.at_ (k := k) (by rw [List.length_map]; exact hlt)
        rw [List.getElem_map] at hcell
        have hc2 := (hb.cell (p := ad.add k) (by rw [block_of_add']; exact HA.out ad rfl)).trans hcell
        have hfk := HF.out l[k] (List.getElem_mem hlt)
        have hst := sum_take l k hlt
        have hndk := sum_nd (l.take k) (fun n hn => HF.out n (mem_take hn)) (by have := HL.out; rw [List.length_take]; omega)
        have hw2 := fits_words hfk
        generalize l[k] = x at *
        generalize (l.take k).sum = S at *
        have HST := Lib.hid hst
        clear hst hcell
        go_wp2_with (first
          | (go_at_call 102; refine (words_c _ _ (by assumption)).mono ?_; intro e w1 hp; obtain ⟨A1, c1, rfl, hc1, hr1, hb1⟩ := hp.get; have hr0 := (hrow.out.below hb1).more hb1.size; have HR1 := Lib.hid hr1; clear hr1)
          | (go_at_call 83; refine (Add_c _ _ _ _ _ _ _ _ (by omega) (by omega) hr0 HR1.out (Nat.le_refl _)).mono ?_; intro e w2 hp; obtain ⟨A2, c2, rfl, hc2', hr2, hb2⟩ := hp.get))
        have HR2 := Lib.hid hr2
        have hbb := hb.trans ((hb1.mono hb.size).trans (hb2.mono (Nat.le_trans hb.size hb1.size)))
        clear hr2 hr0
        go_roundw
        case rel => exact ⟨k + 1, A2, c2, by omega, by go_num, by rw [HST.out], by rw [HST.out]; exact hc2', by rw [HST.out]; exact HR2, hbb⟩
        case measure => simp [intOf]; omega
      · obtain rfl : k = l.length := by omega
        rw [List.take_length] at hc hrow ⊢
        have hnd := sum_nd l HF.out HL.out
        have HN := Lib.hid hnd
        clear hnd
        go_wp2_with (go_at_call 100; refine (made_c _ _ _ _ _ (by have := HN.out; omega) hrow.out (Nat.le_refl _)).mono ?_; rintro e w' ⟨rfl, hb'⟩)
        go_ret2
        exact ⟨rfl, hb.trans (hb'.mono hb.size)⟩
/-- The sum of two. -/
theorem NAdd_c (a b : Nat) (w : World) (ha : fits a) (hb : fits b) :
    Calls Tryd.prog 90 #[.string (natS a), .string (natS b)] w (StrPost (resS (a + b)) (resE (a + b)) w) := by
  have hs := fun w' (h : Strs w' (some ⟨w.heap.size, 0, none⟩) ([a, b].map natS)) (hA : w.heap.size < w'.heap.size) => Sum_c (some ⟨w.heap.size, 0, none⟩) 2 [a, b] w' (by simp) (fun n hn => by
    rcases List.mem_cons.1 hn with rfl | hn
    · exact ha
    · rw [List.mem_singleton.1 hn]; exact hb) h (fun ad e => by cases e; exact hA)
  have HS := Lib.hid hs
  clear hs
  have he : [a, b].sum = a + b := by simp
  have HE := Lib.hid he
  clear he
  go_enter Tryd.func90, Tryd.ntmps90
  go_wp2_with fail
  refine (HS.out _ (strs_new w 22 [natS a, natS b]) (by simp)).mono ?_
  rw [HE.out]
  rintro e w' ⟨rfl, hb'⟩
  go_wp2_with fail
  go_ret2
  exact ⟨rfl, ((Below.refl _ _).alloc (Nat.le_refl _) _).trans (hb'.mono (by simp))⟩
set_option maxRecDepth 100000 in
theorem Sum_no (A : Option Addr) (c : Nat) (ss : List ByteArray) (w : World) (hl : ss.length ≤ 9223372036854775807) (hn : ∃ s ∈ ss, ¬ May s) (h : Strs w A ss) :
    Calls Tryd.prog 126 #[.slice A ss.length c] w (StrPost ⟨#[]⟩ 2 w) := by
  have hm : mayE ss = 2 := by obtain ⟨s, h1, h2⟩ := hn; exact mayE_no h1 h2
  have hall := all_c A c ss w hl h
  rw [hm] at hall
  have HALL := Lib.hid hall
  clear h hall hm hn
  go_enter Tryd.func126, Tryd.ntmps126
  go_wp2_with (go_at_call 97; refine HALL.out.mono ?_; rintro e w' ⟨rfl, rfl⟩)
  go_ret2
  exact ⟨rfl, Below.refl _ _⟩
theorem NAdd_no (s t : ByteArray) (w : World) (h : ¬ (May s ∧ May t)) :
    Calls Tryd.prog 90 #[.string s, .string t] w (StrPost ⟨#[]⟩ 2 w) := by
  have hs := fun w' (h' : Strs w' (some ⟨w.heap.size, 0, none⟩) [s, t]) => Sum_no (some ⟨w.heap.size, 0, none⟩) 2 [s, t] w' (by simp) (by
    by_cases h1 : May s
    · exact ⟨t, by simp, fun c => h ⟨h1, c⟩⟩
    · exact ⟨s, by simp, h1⟩) h'
  have HS := Lib.hid hs
  clear hs
  go_enter Tryd.func90, Tryd.ntmps90
  go_wp2_with fail
  refine (HS.out _ (strs_new w 22 [s, t])).mono ?_
  rintro e w' ⟨rfl, hb'⟩
  go_wp2_with fail
  go_ret2
  exact ⟨rfl, ((Below.refl _ _).alloc (Nat.le_refl _) _).trans (hb'.mono (by simp))⟩
end Go.Proofs.YtjkonfopajihdaaDoor
set_option linter.unusedSimpArgs false
set_option linter.unusedVariables false
namespace Go.Proofs.YtjkonfopajihdaaDoor
open Go Go.RowKit Nt

theorem fits_le {m n : Nat} (h : fits n) (hm : m ≤ n) : fits m := by unfold fits at *; exact Nat.le_trans (nd_mono (by omega) hm) h
theorem natS_empty {n : Nat} (h : n = 0) : (natS n).toList = [] := by subst h; rw [natS_zero, ba_toList]
theorem natS_full {n : Nat} (h : n ≠ 0) : ¬ (natS n).toList = [] := fun c => by
  rw [ba_toList] at c
  have h1 : (natS n).size = 0 := by show (natS n).data.size = 0; rw [← Array.length_toList, c]; rfl
  rw [natS_size, nd_eq_zero (by omega)] at h1; exact h h1
theorem natS_full2 {n : Nat} (h : n ≠ 0) : (natS n).toList.isEmpty = false := by
  have := natS_full h
  cases h2 : (natS n).toList with
  | nil => exact absurd h2 this
  | cons x l => rfl
theorem cmp_neg {a b : Nat} (h : a < b) : decide (cmpN a b < 0) = true := by rw [cmpN_lt h]; rfl
theorem cmp_pos {a b : Nat} (h : b ≤ a) : decide (cmpN a b < 0) = false := by
  rcases Nat.eq_or_lt_of_le h with h1 | h1
  · subst h1; rw [cmpN_eq]; rfl
  · rw [cmpN_gt h1]; rfl
/-- Is the product of two too long by the lengths alone? -/
theorem mul_long {a b : Nat} (ha : a ≠ 0) (hb : b ≠ 0) : nd 256 a - 1 + (nd 256 b - 1) < nd 256 (a * b) := by
  have h1 : nd 256 a ≠ 0 := fun c => ha ((nd_eq_zero (by omega)).1 c)
  have h2 : nd 256 b ≠ 0 := fun c => hb ((nd_eq_zero (by omega)).1 c)
  refine (pow_le_iff (by omega) _ _).1 ?_
  rw [Nat.pow_add]
  exact Nat.mul_le_mul ((pow_le_iff (by omega) _ _).2 (by omega)) ((pow_le_iff (by omega) _ _).2 (by omega))
theorem small_prod {x y : Nat} (h : x * y < 18446744073709551616) : x * y / 18446744073709551616 = 0 ∧ x * y % 18446744073709551616 = x * y := ⟨Nat.div_eq_of_lt h, Nat.mod_eq_of_lt h⟩
@[irreducible] def longI (z : Int) : Bool := decide (131072 < z)
@[local go_sem] theorem gt_longI (z : Int) : decide ((131072 : Int) < z) = longI z := by unfold longI; rfl
set_option maxRecDepth 100000 in
theorem NMul_no (s t : ByteArray) (w : World) (h : ¬ (May s ∧ May t)) :
    Calls Tryd.prog 86 #[.string s, .string t] w (StrPost ⟨#[]⟩ 2 w) := by
  have hm := may2_no h
  go_enter Tryd.func86, Tryd.ntmps86
  go_wp2_with (first | (go_at_call 97; refine (all_c _ 2 [s, t] _ (by simp) (strs_new w 22 [s, t])).mono ?_; rintro e w' ⟨rfl, rfl⟩))
  go_ret2
  exact ⟨rfl, (Below.refl _ _).alloc (Nat.le_refl _) _⟩
set_option maxRecDepth 100000 in
theorem NMul_small (a b : Nat) (w : World) (ha : fits a) (hb : fits b) (h1 : brB a = true) (h2 : brB b = true) (h3 : a * b < 18446744073709551616) :
    Calls Tryd.prog 86 #[.string (natS a), .string (natS b)] w (StrPost (natS (a * b)) 0 w) := by
  have hm := may2 ha hb
  have e1 := brN_yes (brB_true h1)
  have e2 := brN_yes (brB_true h2)
  have hmul := fun w => Tryd.bits_Mul64 a b (br_lt.1 (brB_true h1)) (br_lt.1 (brB_true h2)) w
  obtain ⟨q1, q2⟩ := small_prod h3
  rw [q1, q2] at hmul
  have HM := Lib.hid hmul
  have HP := Lib.hid h3
  clear hmul q1 q2 h3
  go_enter Tryd.func86, Tryd.ntmps86
  go_wp2_with (first
    | (go_at_call 97; refine (all_c _ 2 [natS a, natS b] _ (by simp) (strs_new w 22 [natS a, natS b])).mono ?_; rintro e w' ⟨rfl, rfl⟩)
    | (go_at_call 122; refine (brief_c _ _ (by assumption)).mono ?_; rintro e w' ⟨rfl, rfl⟩)
    | (go_at_call 123; refine (HM.out _).mono ?_; rintro e w' ⟨rfl, rfl⟩)
    | (go_at_call 62; refine (Of_n _ _ HP.out).mono ?_; rintro e w' ⟨rfl, hb2⟩))
  go_ret2
  exact ⟨rfl, ((Below.refl _ _).alloc (Nat.le_refl _) _).trans (hb2.mono (by simp))⟩
theorem mul_cases (a b : Nat) : (brB a = true ∧ brB b = true ∧ a * b < 18446744073709551616) ∨ brB a = false ∨ (brB a = true ∧ brB b = false) ∨ (brB a = true ∧ brB b = true ∧ ¬ a * b < 18446744073709551616) := by
  by_cases h3 : a * b < 18446744073709551616 <;> cases brB a <;> cases brB b <;> simp [h3]
theorem big_prod {a b : Nat} (h1 : brB a = true) (h2 : brB b = true) (h : ¬ a * b < 18446744073709551616) : ∃ hi lo : Nat, ((hi : Int) == 0) = false ∧
    ∀ w, Calls Tryd.prog 123 #[.int .u64 (a : Nat), .int .u64 (b : Nat)] w fun e w' => e = .returned (.tuple #[.int .u64 (hi : Nat), .int .u64 (lo : Nat)]) ∧ w' = w :=
  ⟨_, _, eqz_false (by have := Nat.div_pos (a := a * b) (b := 18446744073709551616) (by omega) (by omega); omega), fun w => Tryd.bits_Mul64 a b (br_lt.1 (brB_true h1)) (br_lt.1 (brB_true h2)) w⟩
/-- The test of the lengths. -/
theorem mul_test (a b : Nat) (ha : fits a) (hb : fits b) : (a = 0 ∨ b = 0 ∨ longI (8 * ((nd 256 a : Int) - 1) + 8 * ((nd 256 b : Int) - 1)) = false) ∨ (a ≠ 0 ∧ b ≠ 0 ∧ longI (8 * ((nd 256 a : Int) - 1) + 8 * ((nd 256 b : Int) - 1)) = true ∧ ¬ fits (a * b)) := by
  by_cases h1 : a = 0
  · exact Or.inl (Or.inl h1)
  by_cases h2 : b = 0
  · exact Or.inl (Or.inr (Or.inl h2))
  by_cases h3 : 131072 < 8 * ((nd 256 a : Int) - 1) + 8 * ((nd 256 b : Int) - 1)
  · refine Or.inr ⟨h1, h2, by unfold longI; exact decide_eq_true h3, fun c => ?_⟩
    have := mul_long h1 h2
    unfold fits at c; omega
  · exact Or.inl (Or.inr (Or.inr (by unfold longI; exact decide_eq_false h3)))
set_option maxRecDepth 100000 in
set_option maxHeartbeats 2000000 in
theorem NMul_c (a b : Nat) (w : World) (ha : fits a) (hb : fits b) :
    Calls Tryd.prog 86 #[.string (natS a), .string (natS b)] w (StrPost (resS (a * b)) (resE (a * b)) w) := by
  have hm := may2 ha hb
  have hza := natS_size a
  have hzb := natS_size b
  have hna : nd 256 a ≤ 16384 := ha
  have hnb : nd 256 b ≤ 16384 := hb
  have hwa := fits_words ha
  have hwb := fits_words hb
  have hwm := mul_words a b
  rcases mul_cases a b with ⟨h1, h2, h3⟩ | h | ⟨h1, h2⟩ | ⟨h1, h2, h3⟩
  case' inl =>
    have hf : fits (a * b) := by have := br_lt.2 h3; unfold fits; omega
    rw [resS_ok hf, resE_ok hf]
    exact NMul_small a b w ha hb h1 h2 h3
  case' inr.inl =>
    go_enter Tryd.func86, Tryd.ntmps86
    go_upto_region 10 with (first
      | (go_at_call 97; refine (all_c _ 2 [natS a, natS b] _ (by simp) (strs_new w 22 [natS a, natS b])).mono ?_; rintro e w' ⟨rfl, rfl⟩)
      | (go_at_call 122; refine (brief_c _ _ (by assumption)).mono ?_; rintro e w' ⟨rfl, rfl⟩))
  case' inr.inr.inl =>
    go_enter Tryd.func86, Tryd.ntmps86
    go_upto_region 10 with (first
      | (go_at_call 97; refine (all_c _ 2 [natS a, natS b] _ (by simp) (strs_new w 22 [natS a, natS b])).mono ?_; rintro e w' ⟨rfl, rfl⟩)
      | (go_at_call 122; refine (brief_c _ _ (by assumption)).mono ?_; rintro e w' ⟨rfl, rfl⟩))
  case' inr.inr.inr =>
    have e1 := brN_yes (brB_true h1)
    have e2 := brN_yes (brB_true h2)
    obtain ⟨hi, lo, hz, hmul⟩ := big_prod h1 h2 h3
    have HM := Lib.hid hmul
    clear hmul h3
    go_enter Tryd.func86, Tryd.ntmps86
    go_upto_region 10 with (first
      | (go_at_call 97; refine (all_c _ 2 [natS a, natS b] _ (by simp) (strs_new w 22 [natS a, natS b])).mono ?_; rintro e w' ⟨rfl, rfl⟩)
      | (go_at_call 122; refine (brief_c _ _ (by assumption)).mono ?_; rintro e w' ⟨rfl, rfl⟩)
      | (go_at_call 123; refine (HM.out _).mono ?_; rintro e w' ⟨rfl, rfl⟩))
  all_goals
    have hbw : Below w.heap.size w (w.alloc (.cells #[.string (natS a), .string (natS b)] 22)) := (Below.refl _ _).alloc (Nat.le_refl _) _
    generalize w.alloc (.cells #[.string (natS a), .string (natS b)] 22) = w1 at *
    rcases mul_test a b ha hb with h0 | ⟨h1, h2, h3, h4⟩
    · rcases h0 with h0 | h0 | h0
      case' inl => have hE := natS_empty h0
      case' inr.inl => have hE := natS_empty h0
      all_goals
        have HO := Lib.hid h0
        have HHm := Lib.hid hwm
        clear h0 hwm
      case' inr.inr => have hE := HO.out
      all_goals
        go_upto_region 13 with fail
      all_goals
        go_wp2_with fail
        refine (words_c a _ ha).mono ?_
        intro e w2 hp
        obtain ⟨A1, c1, rfl, hc1, hr1, hb2⟩ := hp.get
        have HR1 := Lib.hid hr1
        clear hr1 hp
        go_wp2_with fail
        refine (words_c b _ hb).mono ?_
        intro e w3 hp
        obtain ⟨A2, c2, rfl, hc2, hr2, hb3⟩ := hp.get
        have HR2 := Lib.hid hr2
        clear hr2 hp
        go_wp2_with fail
        refine (Mul_c A1 A2 c1 c2 a b w3.heap.size w3 (by omega) ((HR1.out.below hb3).more hb3.size) HR2.out (Nat.le_refl _)).mono ?_
        intro e w4 hp
        obtain ⟨A3, c3, rfl, hc3, hr3, hb4⟩ := hp.get
        have HR3 := Lib.hid hr3
        clear hr3 hp
        go_wp2_with fail
        refine (made_c A3 c3 (a * b) w4.heap.size w4 (by have := HHm.out; omega) HR3.out (Nat.le_refl _)).mono ?_
        rintro e w5 ⟨rfl, hb5⟩
        go_wp2_with fail
        go_ret2
        exact ⟨rfl, hbw.trans ((hb2.mono hbw.size).trans ((hb3.mono (Nat.le_trans hbw.size hb2.size)).trans ((hb4.mono (Nat.le_trans hbw.size (Nat.le_trans hb2.size hb3.size))).trans (hb5.mono (Nat.le_trans hbw.size (Nat.le_trans hb2.size (Nat.le_trans hb3.size hb4.size)))))))⟩
    · have n1 := natS_full h1
      have n2 := natS_full h2
      have m1 := natS_full2 h1
      have m2 := natS_full2 h2
      have R1 := Lib.hid (resS_no h4)
      have R2 := Lib.hid (resE_no h4)
      go_wp2_with fail
      go_ret2
      exact ⟨by rw [R1.out, R2.out]; rfl, hbw⟩
end Go.Proofs.YtjkonfopajihdaaDoor
set_option linter.unusedSimpArgs false
set_option linter.unusedVariables false
namespace Go.Proofs.YtjkonfopajihdaaDoor
open Go Go.RowKit Nt

theorem below_chain {a b c : World} (h1 : Below a.heap.size a b) (h2 : Below b.heap.size b c) : Below a.heap.size a c := h1.trans (h2.mono h1.size)
theorem nne_true {x : Nat} (h : x ≠ 0) : (((x : Nat) : Int) != 0) = true := by rw [bne_iff_ne]; omega
theorem nne_false {x : Nat} (h : x = 0) : (((x : Nat) : Int) != 0) = false := by subst h; rfl
/-- A slice of the call's own that holds these numbers. -/
def Own (w : World) (B : Nat) (T : TypeId) (k : IntKind) (v : Value) (l : List Nat) : Prop := w.ownsRow B T 1 v l.length (l.map (fun (x : Nat) => Value.int k (x : Int)))
theorem Own.nil (w : World) (B : Nat) (T : TypeId) (k : IntKind) : Own w B T k (.slice none 0 0) [] := World.ownsRow_nil w B T 1
theorem Own.form {w : World} {B : Nat} {T : TypeId} {k : IntKind} {v : Value} {l : List Nat} (h : Own w B T k v l) :
    (v = .slice none 0 0 ∧ l = []) ∨ ∃ g cap cs, v = .slice (some ⟨g, 0, none⟩) l.length cap ∧ B ≤ g ∧ g < w.heap.size ∧ Blk w g T cs ∧ l.length ≤ cap ∧ cap ≤ 9223372036854775807 ∧ ∀ j, (hj : j < l.length) → cs[j]? = some (.int k (l[j] : Nat)) := by
  rcases h.2 with ⟨rfl, h0⟩ | ⟨g, cap, cur, rfl, hB, hh, hn, hm, hs, ht⟩
  · exact Or.inl ⟨rfl, List.eq_nil_of_length_eq_zero h0⟩
  · refine Or.inr ⟨g, cap, cur, rfl, hB, Blk.lt hh, hh, hn, by simpa [maxLen] using hm, fun j hj => ?_⟩
    have e := congrArg (fun x => x[j]?) ht
    simp only [Nat.mul_one] at e
    rw [List.getElem?_take, if_pos hj, List.getElem?_map, List.getElem?_eq_getElem hj] at e
    rw [← Array.getElem?_toList]; exact e
theorem Own.cell {w : World} {B : Nat} {T : TypeId} {k : IntKind} {v : Value} {l : List Nat} (h : Own w B T k v l) {j : Nat} (hj : j < l.length) :
    ∃ g cap, v = .slice (some ⟨g, 0, none⟩) l.length cap ∧ B ≤ g ∧ g < w.heap.size ∧ w.cell? ⟨g, j, none⟩ = some (.int k (l[j] : Nat)) ∧ w.frozen? ⟨g, j, none⟩ = false := by
  rcases h.form with ⟨_, rfl⟩ | ⟨g, cap, cs, rfl, hB, hg, hb, _, _, hc⟩
  · simp at hj
  · exact ⟨g, cap, rfl, hB, hg, by rw [hb.cell, hc j hj], hb.frozen j⟩
theorem Own.below {w w' : World} {B B' : Nat} {T : TypeId} {k : IntKind} {v : Value} {l : List Nat} (h : Own w B T k v l) (hb : Below B' w w') (hB : ∀ g, v.ownBlock = some g → g < B') : Own w' B T k v l := by
  rcases h.2 with ⟨rfl, h0⟩ | ⟨g, cap, cur, rfl, hB1, hh, hn, hm, hs, ht⟩
  · exact ⟨h.1, Or.inl ⟨rfl, h0⟩⟩
  · exact ⟨h.1, Or.inr ⟨g, cap, cur, rfl, hB1, (hb.block g (hB g rfl)).trans hh, hn, hm, hs, ht⟩⟩
theorem Own.base {w : World} {B B' : Nat} {T : TypeId} {k : IntKind} {v : Value} {l : List Nat} (h : Own w B T k v l) (hB : B' ≤ B) : Own w B' T k v l := by
  rcases h.2 with ⟨rfl, h0⟩ | ⟨g, cap, cur, rfl, hB1, hh, hn, hm, hs, ht⟩
  · exact ⟨h.1, Or.inl ⟨rfl, h0⟩⟩
  · exact ⟨h.1, Or.inr ⟨g, cap, cur, rfl, by omega, hh, hn, hm, hs, ht⟩⟩
theorem Own.lt {w : World} {B : Nat} {T : TypeId} {k : IntKind} {v : Value} {l : List Nat} (h : Own w B T k v l) : ∀ g, v.ownBlock = some g → B ≤ g ∧ g < w.heap.size := World.ownsRow.lt h
theorem Own.whole {w w' : World} {B : Nat} {T : TypeId} {k : IntKind} {v : Value} {l : List Nat} (h : Own w B T k v l) (hb : Below w.heap.size w w') : Own w' B T k v l := h.below hb fun g e => (h.lt g e).2
theorem Own.drewN {w : World} {B : Nat} {T : TypeId} {k : IntKind} {v : Value} {l : List Nat} (h : Own w B T k v l) (n : Nat) : Own (w.drewN n) B T k v l := h
theorem Own.len {w : World} {B : Nat} {T : TypeId} {k : IntKind} {v : Value} {l : List Nat} (h : Own w B T k v l) : ∃ A c, v = .slice A l.length c ∧ l.length ≤ c := by
  rcases h.form with ⟨rfl, rfl⟩ | ⟨g, cap, cs, rfl, _, _, _, hc, _⟩
  · exact ⟨none, 0, rfl, Nat.le_refl _⟩
  · exact ⟨_, _, rfl, hc⟩
/-- What an append leaves as it was. -/
def Frm (w0 w' : World) (v : Value) : Prop := ∀ k, k < w0.heap.size → some k ≠ v.ownBlock → w'.heap[k]? = w0.heap[k]?
theorem Frm.cell {w0 w' : World} {v : Value} (h : Frm w0 w' v) {p : Addr} (hp : p.block < w0.heap.size) (hne : some p.block ≠ v.ownBlock) : w'.cell? p = w0.cell? p := World.cell?_of_block (h p.block hp hne)
theorem Row.frm {w0 w' : World} {v : Value} {A : Option Addr} {n L : Nat} (hr : Row w0 w0.heap.size A n L) (h : Frm w0 w' v) (hd : ∀ g, A = some ⟨g, 0, none⟩ → v.ownBlock ≠ some g) (hs : w0.heap.size ≤ w'.heap.size) : Row w' w'.heap.size A n L := fun hL => by
  obtain ⟨g, e, hg, hc⟩ := hr hL
  exact ⟨g, e, by omega, fun j hj => (h.cell (p := ⟨g, j, none⟩) hg (fun c => hd g e c.symm)).trans (hc j hj)⟩
theorem Own.frm {w0 w' : World} {B : Nat} {T : TypeId} {k : IntKind} {v u : Value} {l : List Nat} (ho : Own w0 B T k u l) (h : Frm w0 w' v) (hd : ∀ g, u.ownBlock = some g → v.ownBlock ≠ some g) : Own w' B T k u l := by
  rcases ho.2 with ⟨rfl, h0⟩ | ⟨g, cap, cur, rfl, hB1, hh, hn, hm, hs, ht⟩
  · exact ⟨ho.1, Or.inl ⟨rfl, h0⟩⟩
  · exact ⟨ho.1, Or.inr ⟨g, cap, cur, rfl, hB1, (h g (Blk.lt hh) (fun c => hd g rfl c.symm)).trans hh, hn, hm, hs, ht⟩⟩
/-- 'append(s, x)'. -/
theorem wpList_app1 {P : Program} (w0 : World) {ops : Array Oper} {rest : List Oper} {o : Oper} {a : Act} {Q : Exit → Act → World → Prop} (hgd : o.guard = none) (s x : Operand) (t : TypeId)
    (ho : o.op = .call { callee := .builtin .append, args := #[s, x], argTypes := #[t, t] })
    (B : Nat) (e U : TypeId) (i : TypeInfo) (k : IntKind) (bytes : Nat) (ht : P.underlying t = some (.slice e)) (hi : P.info? e = some i) (hz : i.zero = some (.int k 0))
    (hsize : i.size = 1) (hby : i.bytes = bytes) (hb8 : bytes ≤ 8)
    (v : Value) (l : List Nat) (y : Nat) (hs : a.eval s = v) (hx : a.eval x = .slice (some ⟨w0.heap.size, 0, none⟩) 1 1) (hown : Own w0 B e k v l)
    (hn : l.length + 1 ≤ 17592186044416) (hB : B ≤ w0.heap.size)
    (h : ∀ v' w', Own w' B e k v' (l ++ [y]) → Below B w0 w' → Frm w0 w' v → (∀ g, v'.ownBlock = some g → v.ownBlock = some g ∨ w0.heap.size ≤ g) → wpList P ops Q rest (a.put o.dst v') w') :
    wpList P ops Q (o :: rest) a (w0.alloc (.cells #[.int k (y : Nat)] U)) := by
  have hbytes : (l.length + 1) * bytes ≤ 140737488355328 := by
    have h1 : (l.length + 1) * bytes ≤ (l.length + 1) * 8 := Nat.mul_le_mul_left _ hb8
    omega
  have hown1 : (w0.alloc (.cells #[.int k (y : Nat)] U)).ownsRow B e 1 v l.length (l.map (fun (x : Nat) => Value.int k (x : Int))) := World.ownsRow.alloc hown _
  refine wpList_plain hgd fun _ hK => ?_
  obtain ⟨v', w', hrun, h2, hg, _, h5⟩ := run_append_own_at (P := P) (w0.alloc (.cells #[.int k (y : Nat)] U)) B t o.type e i (.int k 0) 1 bytes ht hi hz hsize hby rfl (by omega) v l.length (l.map (fun (x : Nat) => Value.int k (x : Int))) hown1
    ⟨w0.heap.size, 0, none⟩ 1 1 [.int k (y : Nat)] rfl (by
      intro j u hu
      have hj : j = 0 := by
        rcases Nat.lt_or_ge j 1 with h | h
        · omega
        · rw [List.getElem?_eq_none (by simpa using h)] at hu; cases hu
      subst hj
      rw [add_plain0, World.cell?_alloc_new]
      exact hu) (by
      intro u hu
      rw [List.mem_singleton.1 hu]; rfl) (by simp [maxLen]; omega) hbytes (by simp; omega)
  unfold Oper.wp execOp
  simp only [ho, resolve, invoke, builtin, Sem.run_bind, Sem.run_pure, Result.andThen_ok, List.map_toArray, List.map_cons, List.map_nil, hs, hx, hrun]
  refine hK _ _ (h v' w' ?_ ?_ ?_ ?_)
  · unfold Own
    simpa using h2
  · exact Below.grown ((Below.refl _ _).alloc hB _) hg (by simp; omega) (fun g e => (hown.lt g e).1)
  · intro k' hk hne
    rw [hg.block k' (by simp; omega) hne]
    exact Below.heap_alloc w0 _ k' hk
  · intro g hgo
    rcases h5 with h5 | h5
    · rw [← h5]; exact Or.inl hgo
    · rw [h5] at hgo
      have : g = w0.heap.size + 1 := by simpa using hgo.symm
      exact Or.inr (by omega)
/-- A block of bytes turned round. -/
def TurnPost (g n : Nat) (T : TypeId) (f : Nat → Nat) (w : World) (e : Ending) (w' : World) : Prop :=
  e = .returned (.tuple #[]) ∧ ∃ cs, Blk w' g T cs ∧ (∀ j, j < n → cs[j]? = some (.int .u8 (f (n - 1 - j) : Nat))) ∧ Below g w w'
/-- Where the byte at p stands when i have been exchanged. -/
def swF (f : Nat → Nat) (n i p : Nat) : Nat := if p < i ∨ n - i ≤ p then f (n - 1 - p) else f p
theorem sw_set {cs : Array Value} {n i : Nat} {f : Nat → Nat} (hc : ∀ j, j < n → cs[j]? = some (.int .u8 (swF f n i j : Nat))) (h : i < n - 1 - i) :
    ∀ j, j < n → ((cs.setIfInBounds i (.int .u8 (f (n - 1 - i) : Nat))).setIfInBounds (n - 1 - i) (.int .u8 (f i : Nat)))[j]? = some (.int .u8 (swF f n (i + 1) j : Nat)) := by
  intro j hj
  have hsz : n ≤ cs.size := by
    rcases Nat.lt_or_ge cs.size n with h1 | h1
    · have := hc (n - 1) (by omega)
      rw [Array.getElem?_eq_none (by omega)] at this; cases this
    · exact h1
  rw [Array.getElem?_setIfInBounds, Array.size_setIfInBounds]
  by_cases h1 : n - 1 - i = j
  · rw [if_pos h1, if_pos (by omega)]
    unfold swF
    rw [if_pos (by omega)]
    congr 4; omega
  · rw [if_neg h1, Array.getElem?_setIfInBounds]
    by_cases h2 : i = j
    · rw [if_pos h2, if_pos (by omega)]
      unfold swF
      rw [if_pos (by omega), h2]
    · rw [if_neg h2, hc j hj]
      unfold swF
      by_cases h3 : j < i ∨ n - i ≤ j
      · rw [if_pos h3, if_pos (by omega)]
      · rw [if_neg h3, if_neg (by omega)]
end Go.Proofs.YtjkonfopajihdaaDoor
set_option linter.unusedSimpArgs false
set_option linter.unusedVariables false
namespace Go.Proofs.YtjkonfopajihdaaDoor
open Go Go.RowKit Nt

set_option maxRecDepth 100000 in
theorem NLen_no (s : ByteArray) (w : World) (h : ¬ May s) :
    Calls Tryd.prog 58 #[.string s] w (IntPost 0 2 w) := by
  have hm := may1_no h
  go_enter Tryd.func58, Tryd.ntmps58
  go_wp2_with (go_at_call 59; refine (Check_c _ _).mono ?_; rintro e w1 ⟨rfl, hb⟩)
  go_ret2
  exact ⟨rfl, hb⟩
set_option maxRecDepth 100000 in
theorem NLen_c (n : Nat) (w : World) (hf : fits n) :
    Calls Tryd.prog 58 #[.string (natS n)] w (IntPost (nd 2 n : Nat) 0 w) := by
  have hm := may1 hf
  by_cases h0 : n = 0
  · have hE := natS_empty h0
    have HZ := Lib.hid (show nd 2 n = 0 by rw [h0, nd_zero])
    clear h0
    go_enter Tryd.func58, Tryd.ntmps58
    go_wp2_with (go_at_call 59; refine (Check_c _ _).mono ?_; rintro e w1 ⟨rfl, hb⟩)
    go_ret2
    exact ⟨by rw [HZ.out]; rfl, hb⟩
  · have hE := natS_full h0
    have hE2 := natS_full2 h0
    have hsz := natS_size n
    obtain ⟨L, hL⟩ : ∃ L, nd 256 n = L + 1 := ⟨nd 256 n - 1, by
      rcases Nat.eq_zero_or_pos (nd 256 n) with h | h
      · exact absurd ((nd_eq_zero (by omega)).1 h) h0
      · omega⟩
    have HT := Lib.hid (nd_top (b := 2) (c := 256) (e := 8) (by omega) (by omega) (by rfl) n h0)
    have hp : 0 < (natS n).size := by omega
    have hg := natS_get n 0 hp
    unfold fits at hf
    rw [hL] at hsz hg HT hf
    have hlt : (natS n)[0].toNat < 256 := (natS n)[0].toNat_lt
    have hbl := bitLen_nd (x := (natS n)[0].toNat) (by omega)
    have hle : nd 2 (natS n)[0].toNat ≤ 8 := nd_le (by omega) (by omega)
    have hfin : 8 * (L : Int) + (Go.Lib.bitLen (natS n)[0].toNat : Int) = (nd 2 n : Int) := by
      have h1 := HT.out
      rw [Nat.add_sub_cancel, Nat.sub_zero] at hg
      rw [Nat.add_sub_cancel, ← hg] at h1
      rw [hbl, h1]; omega
    have hle2 : Go.Lib.bitLen (natS n)[0].toNat ≤ 8 := by rw [hbl]; exact hle
    have HF := Lib.hid hfin
    clear hfin hg hbl hle h0
    go_enter Tryd.func58, Tryd.ntmps58
    go_wp2_with (first | (go_at_call 59; refine (Check_c _ _).mono ?_; rintro e w1 ⟨rfl, hb⟩) | (go_at_call 96; refine (Tryd.bits_Len8 _ _ (by omega) (by omega)).mono ?_; rintro e w' ⟨rfl, rfl⟩))
    go_ret2
    refine ⟨?_, hb⟩
    have h2 := HF.out
    simp only [Int.toNat_natCast]
    rw [← h2]; rfl
end Go.Proofs.YtjkonfopajihdaaDoor
