/- Texts put together: N13 N14 N15 N16 N17 N18 N20 N21 P2 P3 P4 P10 N23 N54 N55 N56 N57 N58 N24. -/
import Derived.Test.YtajcapliokblfaaGreatDoorU1
import Derived.Laws.AppendOwn
import Derived.Deep.LoopGhost
import Derived.Maps.AppendAt
import Derived.Deep.RegionHeld3
set_option linter.unusedSimpArgs false
set_option linter.unusedVariables false
namespace Go.Proofs.YtajcapliokblfaaGreatDoor
open Go Go.RowKit Nt
/-- The number, when k words of it are shifted. -/
@[irreducible] def shlV (x q r k : Nat) : Nat := x % W ^ k * 2 ^ r * W ^ q
theorem shlV_def (x q r k : Nat) : shlV x q r k = x % W ^ k * 2 ^ r * W ^ q := by unfold shlV; rfl
theorem shlV_zero (x q r : Nat) : shlV x q r 0 = 0 := by rw [shlV_def, mod_one, Nat.zero_mul, Nat.zero_mul]
theorem shl_last {x q r k : Nat} (hx : x < W ^ nd W x) (hk : k = 64 * q + r) : shlV x q r (nd W x) = x * 2 ^ k := by
  rw [shlV_def, Nat.mod_eq_of_lt hx, hk, Nat.pow_add, W_two, ← Nat.pow_mul, Nat.mul_assoc, Nat.mul_comm (2 ^ r)]
theorem int_pow2 (k : Nat) : (2 : Int) ^ k = ((2 ^ k : Nat) : Int) := by rw [Int.natCast_pow]; rfl
/-- The two words of a step. -/
theorem shl_words (x q r k : Nat) (hr : r < 64) : ∃ v V1 u : Nat,
    bits .or .u64 ((dgt W (shlV x q r k) (k + q) : Nat) : Int) (IntKind.u64.wrap ((dgt W x k : Nat) * 2 ^ r)) = (v : Int) ∧ v < 18446744073709551616 ∧
    put W (shlV x q r k) (k + q) v = V1 ∧ dgt W V1 (k + q + 1) = 0 ∧
    bits .or .u64 (0 : Int) (((dgt W x k : Nat) : Int) / 2 ^ (64 - r)) = (u : Int) ∧ u < 18446744073709551616 ∧ put W V1 (k + q + 1) u = shlV x q r (k + 1) := by
  obtain ⟨h1, h2, h3, h4, h5⟩ := shl_step (e := 64) x k q r (by omega)
  rw [← W_two] at h1 h2 h3 h4 h5
  rw [shlV_def, shlV_def]
  refine ⟨_, _, dgt W x k / 2 ^ (64 - r), ?_, Nat.lt_of_lt_of_eq h2 W_eq, rfl, h3, ?_, Nat.lt_of_lt_of_eq h4 W_eq, h5⟩
  · have e : IntKind.u64.wrap ((dgt W x k : Nat) * 2 ^ r) = ((dgt W x k * 2 ^ r % W : Nat) : Int) := by
      rw [IntKind.wrap_u64, int_pow2, ← Int.natCast_mul, W_eq, Int.natCast_emod]; rfl
    rw [e, bits_or_u64_nat _ _ (wd_lt _ _) (Nat.lt_of_lt_of_eq (Nat.mod_lt _ W0) W_eq), h1]
  · rw [int_pow2, ← Int.natCast_ediv]
    have := bits_or_u64_nat 0 (dgt W x k / 2 ^ (64 - r)) (by omega) (Nat.lt_of_lt_of_eq h4 W_eq)
    rw [Nat.zero_or] at this; exact this
theorem Shl_none (A : Option Addr) (c : Nat) (k : Int) (w : World) :
    Calls Tryz.prog 118 #[.slice A 0 c, .int .i64 k] w (NumPost 0 w) := by
  go_enter Tryz.func118, Tryz.ntmps118
  go_wp2
  go_ret
  have e : nd W 0 = 0 := nd_zero _
  have := NumPost.mk (n := 0) (w := w) (w' := w) (A := none) (c := 0) (by rw [e]; exact Nat.le_refl _) (by rw [e]; exact Row.none_) (Below.refl _ _)
  rw [e] at this; exact this
set_option maxHeartbeats 1000000 in
theorem Shl_some (A : Option Addr) (c x k q r B : Nat) (w : World) (hx0 : x ≠ 0) (hk : k = 64 * q + r) (hr64 : r < 64) (hL : nd W x + q ≤ 1000000000) (hr : Row w B A x (nd W x)) (hBs : B ≤ w.heap.size) :
    Calls Tryz.prog 118 #[.slice A (nd W x) c, .int .i64 (k : Nat)] w (NumPost (x * 2 ^ k) w) := by
  obtain ⟨i0, hi0, hz0, hz1, hz2⟩ := info_parts (P := Tryz.prog) (e := 66) (z := .int .u64 0) (size := 1) (bytes := 8) (by kernel_rfl)
  have HR := Lib.hid hr
  have HA := Lib.hid (lt_nd (n := x) W2)
  have hq : (k : Int) / 64 = (q : Int) := by omega
  have hm : (k : Int) % 64 = (r : Int) := by omega
  have hkb : (k : Int) ≤ 1000000000000 := by omega
  have hn0 : nd W x ≠ 0 := fun e => hx0 ((nd_eq_zero W2).1 e)
  have hz := eqz_false hn0
  have HK := Lib.hid hk
  clear hr hk
  go_enter Tryz.func118, Tryz.ntmps118
  go_wp2_with (at_make; go_loud (refine wpList_make_zero _ rfl (.tmp 21) (.tmp 21) _ rfl 66 i0 _ Tryz.underlying74 hi0 hz0 hz1 .i64 .i64 _ _ (nd W x + q + 1) rfl rfl (by omega) (by omega) (by rw [hz2]; omega) (by unfold maxLen; omega) ?_))
  rw [wcells_made]
  have HB0 := Lib.hid (Blk.new w 66 (wcells 0 (nd W x + q + 1)))
  have hbl : Below w.heap.size w (w.alloc (.cells (wcells 0 (nd W x + q + 1)) 66)) := (Below.refl _ _).alloc (Nat.le_refl _) _
  generalize w.alloc (.cells (wcells 0 (nd W x + q + 1)) 66) = w1 at *
  obtain ⟨g, hg⟩ : ∃ g, g = w.heap.size := ⟨_, rfl⟩
  rw [← hg] at HB0 hbl hBs ⊢
  have HG := Lib.hid hg
  clear hg
  go_loopw [25] (fun i wr => ∃ k : Nat, k ≤ nd W x ∧ i = .int .i64 k ∧ Hid (Blk wr g 66 (wcells (shlV x q r k) (nd W x + q + 1))) ∧ Below g w wr) (fun i _ => nd W x - (intOf i).toNat)
  case atStart => exact ⟨0, Nat.zero_le _, rfl, by rw [shlV_zero]; exact HB0, hbl⟩
  case round =>
    obtain ⟨k, hk, rfl, hblk, hb⟩ := hrel
    by_cases hlt : k < nd W x
    · obtain ⟨ga, rfl, hga, hca⟩ := HR.out.at_ hlt
      have hca2 := (hb.cell (p := ⟨ga, k, none⟩) (by show ga < g; omega)).trans hca
      have hfz := hblk.out.frozen (k + q)
      have hck := hblk.out.cell (k + q)
      rw [wcells_get _ _ _ (by omega)] at hck
      obtain ⟨v, V1, u, e1, hv, e2, e3, e4, hu, e5⟩ := shl_words x q r k hr64
      have HB1 := hblk.out.set_ (k + q) (.int .u64 (v : Nat))
      rw [wcells_set _ _ _ _ hv, e2] at HB1
      have hb1 := hb.setCell (p := ⟨g, k + q, none⟩) (Nat.le_refl _) (.int .u64 (v : Nat))
      have hfz1 := HB1.frozen (k + q + 1)
      have hck1 := HB1.cell (k + q + 1)
      rw [wcells_get _ _ _ (by omega), e3] at hck1
      have hck1' : (wr.setCell ⟨g, k + q, none⟩ (.int .u64 (v : Nat))).cell? ⟨g, k + q + 1, none⟩ = some (.int .u64 0) := hck1
      have HB2 := Lib.hid ((HB1.drew.set_ (k + q + 1) (.int .u64 (u : Nat))).drew)
      rw [wcells_set _ _ _ _ hu, e5] at HB2
      have hb2 := (hb1.drew.setCell (p := ⟨g, k + q + 1, none⟩) (Nat.le_refl _) (.int .u64 (u : Nat))).drew
      have h64 : (64 : Int) - (r : Int) = ((64 - r : Nat) : Int) := by omega
      clear hca hck1 HB1 hb1 hv e2 e3 hu e5
      go_wp2
      go_region
      generalize wr.setCell ⟨g, k + q, none⟩ (.int .u64 (v : Nat)) = w2 at *
      go_wp2
      go_region
      go_wp2
      go_roundw
      case rel => exact ⟨k + 1, by omega, by go_num, HB2, hb2⟩
      case measure => simp [intOf]; omega
    · obtain rfl : k = nd W x := by omega
      have HB1 := hblk.out
      rw [shl_last HA.out HK.out] at HB1
      have HB1' := Lib.hid HB1
      have hs : x * 2 ^ (64 * q + r) < W ^ (nd W x + q + 1) := by
        have h1 := HA.out
        rw [Nat.add_assoc (nd W x), Nat.pow_add W]
        have h2 : (2 : Nat) ^ (64 * q + r) ≤ W ^ (q + 1) := by rw [W_two, ← Nat.pow_mul]; exact Nat.pow_le_pow_right (by omega) (by omega)
        refine Nat.lt_of_lt_of_le ((Nat.mul_lt_mul_right (Nat.two_pow_pos _)).2 h1) (Nat.mul_le_mul_left _ h2)
      rw [← HK.out] at hs
      have HS := Lib.hid hs
      clear HB1 hs
      go_wp2_with fail
      refine (Cut_c (some ⟨g, 0, none⟩) (nd W x + q + 1) (nd W x + q + 1) _ (g + 1) _ HS.out (Nat.le_refl _) (by omega) (Row.of_blk HB1'.out (by omega))).mono ?_
      rintro e w' ⟨rfl, rfl⟩
      go_wp2
      go_ret
      have hnd := nd_le W2 HS.out
      exact NumPost.mk hnd ((Row.of_blk HB1'.out HB1'.out.lt).less hnd) (by rw [← HG.out]; exact hb)
theorem Shl_c (A : Option Addr) (c x k B : Nat) (w : World) (hL : nd W x + k / 64 ≤ 1000000000) (hr : Row w B A x (nd W x)) (hBs : B ≤ w.heap.size) :
    Calls Tryz.prog 118 #[.slice A (nd W x) c, .int .i64 (k : Nat)] w (NumPost (x * 2 ^ k) w) := by
  by_cases h : x = 0
  · subst h
    have e : nd W 0 = 0 := nd_zero _
    rw [e, Nat.zero_mul]
    exact Shl_none A c _ w
  · exact Shl_some A c x k (k / 64) (k % 64) B w h (by omega) (by omega) hL hr hBs
/-- The words of a number that is shifted to the right. -/
theorem shr_words (x q r k : Nat) (hr : r < 64) : ∃ v u : Nat,
    ((dgt W x (k + q) : Nat) : Int) / 2 ^ r = (v : Int) ∧ v < 18446744073709551616 ∧
    bits .or .u64 (v : Int) (IntKind.u64.wrap (((dgt W x (k + q + 1) : Nat) : Int) * 2 ^ (64 - r))) = (u : Int) ∧ u = dgt W (x / 2 ^ (64 * q + r)) k ∧
    (dgt W x (k + q + 1) = 0 → v = dgt W (x / 2 ^ (64 * q + r)) k) := by
  have h := dgt_shr (e := 64) (x / W ^ q) r k (by omega)
  rw [← W_two] at h
  rw [dgt_skip, dgt_skip, show k + 1 + q = k + q + 1 by omega] at h
  have e : x / W ^ q / 2 ^ r = x / 2 ^ (64 * q + r) := by rw [W_two, ← Nat.pow_mul, Nat.div_div_eq_div_mul, ← Nat.pow_add]
  rw [e] at h
  have hv : dgt W x (k + q) / 2 ^ r < 2 ^ (64 - r) := by
    rw [Nat.div_lt_iff_lt_mul (Nat.two_pow_pos r), ← Nat.pow_add, show 64 - r + r = 64 by omega, ← W_two]; exact dgt_lt W0 _ _
  have hv64 : dgt W x (k + q) / 2 ^ r < 18446744073709551616 := Nat.lt_of_le_of_lt (Nat.div_le_self _ _) (wd_lt _ _)
  have hlow : dgt W x (k + q + 1) * 2 ^ (64 - r) % W = 2 ^ (64 - r) * (dgt W x (k + q + 1) % 2 ^ r) := by
    have hW : W = 2 ^ (64 - r) * 2 ^ r := by rw [W_two, ← Nat.pow_add]; congr 1; omega
    generalize dgt W x (k + q + 1) = D
    rw [hW, Nat.mul_comm, Nat.mul_mod_mul_left]
  refine ⟨dgt W x (k + q) / 2 ^ r, dgt W (x / 2 ^ (64 * q + r)) k, ?_, hv64, ?_, rfl, ?_⟩
  · rw [int_pow2, ← Int.natCast_ediv]
  · have e2 : IntKind.u64.wrap (((dgt W x (k + q + 1) : Nat) : Int) * 2 ^ (64 - r)) = ((dgt W x (k + q + 1) * 2 ^ (64 - r) % W : Nat) : Int) := by
      rw [IntKind.wrap_u64, int_pow2, ← Int.natCast_mul, W_eq, Int.natCast_emod]; rfl
    rw [e2, bits_or_u64_nat _ _ hv64 (Nat.lt_of_lt_of_eq (Nat.mod_lt _ W0) W_eq), h, hlow, or_add _ _ _ hv]
  · intro hz; rw [h, hz, Nat.zero_mul, Nat.zero_mod, Nat.add_zero]
theorem Shr_far (A : Option Addr) (c x k L : Nat) (w : World) (h : L ≤ k / 64) (hk : k ≤ 1000000000000) :
    Calls Tryz.prog 116 #[.slice A L c, .int .i64 (k : Nat)] w fun e w' => e = .returned (.slice none 0 0) ∧ w = w' := by
  obtain ⟨q, hq⟩ : ∃ q : Nat, (k : Int) / 64 = (q : Int) := ⟨k / 64, by omega⟩
  have h1 : L ≤ q := by omega
  go_enter Tryz.func116, Tryz.ntmps116
  go_wp2
  go_ret
  exact ⟨rfl, rfl⟩
set_option maxHeartbeats 1000000 in
theorem Shr_near (A : Option Addr) (c x k q r B : Nat) (w : World) (hk : k = 64 * q + r) (hr64 : r < 64) (hq' : q < nd W x) (hL : nd W x ≤ 1000000000) (hr : Row w B A x (nd W x)) (hBs : B ≤ w.heap.size) :
    Calls Tryz.prog 116 #[.slice A (nd W x) c, .int .i64 (k : Nat)] w (NumPost (x / 2 ^ k) w) := by
  obtain ⟨i0, hi0, hz0, hz1, hz2⟩ := info_parts (P := Tryz.prog) (e := 66) (z := .int .u64 0) (size := 1) (bytes := 8) (by kernel_rfl)
  obtain ⟨L, hLe⟩ : ∃ L, nd W x = q + L := ⟨nd W x - q, by omega⟩
  have HR := Lib.hid hr
  have HA := lt_nd (n := x) W2
  have hs : x / 2 ^ (64 * q + r) < W ^ L := by
    rw [Nat.pow_add, ← Nat.div_div_eq_div_mul, Nat.pow_mul, ← W_two]
    refine Nat.lt_of_le_of_lt (Nat.div_le_self _ _) ?_
    rw [Nat.div_lt_iff_lt_mul (Nat.pow_pos W0), ← Nat.pow_add, Nat.add_comm L, ← hLe]; exact HA
  have HS := Lib.hid hs
  have HND := Lib.hid (fun (h : nd W x ≤ q + L) => h)
  have hq : (k : Int) / 64 = (q : Int) := by omega
  have hm : (k : Int) % 64 = (r : Int) := by omega
  have hkb : (k : Int) ≤ 1000000000000 := by omega
  have HZ : Hid (∀ j, q + L ≤ j → dgt W x j = 0) := Lib.hid (fun j hj => dgt_big W2 (by omega))
  have HK := Lib.hid hk
  obtain ⟨M, hM⟩ : ∃ M, M = nd W x := ⟨_, rfl⟩
  rw [← hM] at HR hL ⊢
  have hql : ¬ M ≤ q := by omega
  have hqb : (q : Int) ≤ 1000000000 := by omega
  have hsub : (M : Int) - (q : Int) = (L : Int) := by omega
  have HML : Hid (M = q + L) := Lib.hid (by omega)
  have hL2 : L ≤ M := by omega

  clear hr hk hs HA hLe hq' hM HND
  go_enter Tryz.func116, Tryz.ntmps116
  go_wp2_with (at_make; go_loud (refine wpList_make_zero _ rfl (.tmp 20) (.tmp 20) _ rfl 66 i0 _ Tryz.underlying74 hi0 hz0 hz1 .i64 .i64 _ _ L rfl rfl rfl rfl (by rw [hz2]; omega) (by unfold maxLen; omega) ?_))
  rw [wcells_made]
  have HB0 := Lib.hid (Blk.new w 66 (wcells 0 L))
  have hbl : Below w.heap.size w (w.alloc (.cells (wcells 0 L) 66)) := (Below.refl _ _).alloc (Nat.le_refl _) _
  generalize w.alloc (.cells (wcells 0 L) 66) = w1 at *
  obtain ⟨g, hg⟩ : ∃ g, g = w.heap.size := ⟨_, rfl⟩
  rw [← hg] at HB0 hbl hBs ⊢
  have HG := Lib.hid hg
  clear hg
  go_loopw [24] (fun i wr => ∃ k : Nat, k ≤ L ∧ i = .int .i64 k ∧ Hid (Blk wr g 66 (wcells (x / 2 ^ (64 * q + r) % W ^ k) L)) ∧ Below g w wr) (fun i _ => L - (intOf i).toNat)
  case atStart => exact ⟨0, Nat.zero_le _, rfl, by rw [mod_one]; exact HB0, hbl⟩
  case round =>
    obtain ⟨k, hk, rfl, hblk, hb⟩ := hrel
    by_cases hlt : k < L
    · have hMq : k + q < M := by have := HML.out; omega
      obtain ⟨ga, rfl, hga, hca⟩ := HR.out.at_ hMq
      have hca2 := (hb.cell (p := ⟨ga, k + q, none⟩) (by show ga < g; omega)).trans hca
      have hfz := hblk.out.frozen k
      have hck := hblk.out.cell k
      rw [wcells_get _ _ _ (by omega)] at hck
      obtain ⟨v, u, e1, hv, e2, e3, e4⟩ := shr_words x q r k hr64
      have hv' := Lib.hid hv
      have HE3 := Lib.hid e3
      have HE4 := Lib.hid e4
      have hhb := hblk.out
      have h64 : (64 : Int) - (r : Int) = ((64 - r : Nat) : Int) := by omega
      have hLi : (M : Int) ≤ 1000000000 := by omega
      have hkq : (k : Int) + (q : Int) + 1 ≤ 1000000000 := by omega
      have hkq2 : k + q + 1 ≤ 1000000000 := by omega
      have HLh := Lib.hid hL
      clear hca e3 e4 hv hL
      by_cases hlt2 : k + q + 1 < M
      · obtain ⟨gb, egb, hgb, hcb⟩ := HR.out.at_ hlt2
        obtain rfl : ga = gb := congrArg Addr.block (Option.some.inj egb)
        have hb1 := hb.setCell (p := ⟨g, k, none⟩) (Nat.le_refl _) (.int .u64 (v : Nat))
        have hcb2 := (hb1.cell (p := ⟨ga, k + q + 1, none⟩) (by show ga < g; omega)).trans hcb
        have HB1 := hhb.set_ k (.int .u64 (v : Nat))
        have hfz1 := HB1.frozen k
        have hck1 : (wr.setCell ⟨g, k, none⟩ (.int .u64 (v : Nat))).cell? ⟨g, k, none⟩ = some (.int .u64 (v : Nat)) := by
          rw [HB1.cell, wcells_set _ _ _ _ hv'.out, wcells_get _ _ _ hlt, dgt_put W2 _ _ _ _ (by rw [W_eq]; exact hv'.out), if_pos rfl]
        have HB2 := Lib.hid ((HB1.set_ k (.int .u64 (u : Nat))).drew)
        rw [Array.setIfInBounds_setIfInBounds, wcells_set _ _ _ _ (by rw [HE3.out]; exact wd_lt _ _), HE3.out, put_sum] at HB2
        have hb2 := (hb1.setCell (p := ⟨g, k, none⟩) (Nat.le_refl _) (.int .u64 (u : Nat))).drew
        rw [← HE3.out] at HB2
        have hT : decide ((k : Int) + (q : Int) + 1 < (M : Int)) = true := decide_eq_true (by omega)
        have HLT := Lib.hid hlt
        clear hcb HB1 hb1 hhb
        go_upto_if 44 with fail
        have HA1 := Lib.hid hlt2
        have HA3 := Lib.hid hkq2
        clear hlt2 hkq2 hlt
        go_wp2
        have hlt := HLT.out
        have hlt2 := HA1.out
        go_region
        go_wp2
        go_roundw
        case rel => exact ⟨k + 1, by omega, by go_num, by rw [HE3.out] at *; exact HB2, hb2⟩
        case measure => simp [intOf]; omega
      · have hz0' : v = dgt W (x / 2 ^ (64 * q + r)) k := HE4.out (HZ.out _ (by have := HML.out; omega))
        have HZ' := Lib.hid hz0'
        have HB1 := Lib.hid (hhb.set_ k (.int .u64 (v : Nat)))
        rw [wcells_set _ _ _ _ hv'.out, hz0', put_sum] at HB1
        have hb1 := hb.setCell (p := ⟨g, k, none⟩) (Nat.le_refl _) (.int .u64 (v : Nat))
        have hT : decide ((k : Int) + (q : Int) + 1 < (M : Int)) = false := decide_eq_false (by omega)
        clear hz0' hhb
        go_upto_if 44 with fail
        have HA3 := Lib.hid hkq2
        have HA1 := Lib.hid hlt2
        clear hlt2 hkq2
        go_wp2
        go_roundw
        case rel => exact ⟨k + 1, by omega, by go_num, by rw [HZ'.out]; exact HB1, hb1⟩
        case measure => simp [intOf]; omega
    · obtain rfl : k = L := by omega
      have HB1 := hblk.out
      rw [Nat.mod_eq_of_lt HS.out, ← HK.out] at HB1
      have HB1' := Lib.hid HB1
      have HS2 := HS
      rw [← HK.out] at HS2
      clear HB1
      go_wp2_with fail
      refine (Cut_c (some ⟨g, 0, none⟩) k k _ (g + 1) _ HS2.out (Nat.le_refl _) (by omega) (Row.of_blk HB1'.out (by omega))).mono ?_
      rintro e w' ⟨rfl, rfl⟩
      go_wp2
      go_ret
      have hnd := nd_le W2 HS2.out
      exact NumPost.mk hnd ((Row.of_blk HB1'.out HB1'.out.lt).less hnd) (by rw [← HG.out]; exact hb)
theorem Shr_c (A : Option Addr) (c x k B : Nat) (w : World) (hk : k ≤ 1000000000000) (hL : nd W x ≤ 1000000000) (hr : Row w B A x (nd W x)) (hBs : B ≤ w.heap.size) :
    Calls Tryz.prog 116 #[.slice A (nd W x) c, .int .i64 (k : Nat)] w (NumPost (x / 2 ^ k) w) := by
  by_cases h : k / 64 < nd W x
  · exact Shr_near A c x k (k / 64) (k % 64) B w (by omega) (by omega) h hL hr hBs
  · have h0 : x / 2 ^ k = 0 := by
      apply Nat.div_eq_of_lt
      refine Nat.lt_of_lt_of_le (lt_nd (n := x) W2) ?_
      generalize nd W x = m at *
      rw [W_two, ← Nat.pow_mul]; exact Nat.pow_le_pow_right (by omega) (by omega)
    refine (Shr_far A c x k (nd W x) w (by omega) hk).mono ?_
    rintro e w' ⟨rfl, rfl⟩
    rw [h0]
    have e : nd W 0 = 0 := nd_zero _
    have := NumPost.mk (n := 0) (w := w) (w' := w) (A := none) (c := 0) (by rw [e]; exact Nat.le_refl _) (by rw [e]; exact Row.none_) (Below.refl _ _)
    rw [e] at this; exact this
end Go.Proofs.YtajcapliokblfaaGreatDoor
set_option linter.unusedSimpArgs false
set_option linter.unusedVariables false
namespace Go.Proofs.YtajcapliokblfaaGreatDoor
open Go Go.RowKit Nt
/-- One step of a row: the product's words, two sums, the word and what is carried. -/
theorem row_words (D v t c : Nat) (hD : D < 18446744073709551616) (hv : v < 18446744073709551616) (ht : t < 18446744073709551616) (hc : c < 18446744073709551616) : ∃ hi lo lo2 c1 hi2 nw c2 cy : Nat,
    (∀ w, Calls Tryz.prog 172 #[.int .u64 (D : Nat), .int .u64 (v : Nat)] w fun e w' => e = .returned (.tuple #[.int .u64 (hi : Nat), .int .u64 (lo : Nat)]) ∧ w = w') ∧
    (∀ w, (callFunc 173 #[.int .u64 (lo : Nat), .int .u64 (t : Nat), .int .u64 0]).run Tryz.prog w = .ok (.value (.tuple #[.int .u64 (lo2 : Nat), .int .u64 (c1 : Nat)])) w) ∧
    IntKind.u64.wrap ((hi : Int) + (c1 : Int)) = (hi2 : Int) ∧
    (∀ w, (callFunc 173 #[.int .u64 (lo2 : Nat), .int .u64 (c : Nat), .int .u64 0]).run Tryz.prog w = .ok (.value (.tuple #[.int .u64 (nw : Nat), .int .u64 (c2 : Nat)])) w) ∧
    IntKind.u64.wrap ((hi2 : Int) + (c2 : Int)) = (cy : Int) ∧
    nw < 18446744073709551616 ∧ cy < 18446744073709551616 ∧ nw + W * cy = D * v + t + c := by
  have hp := prod_lt hD hv
  have h1 := Tryz.bits_Add64 (D * v % 18446744073709551616) t 0 (by omega)
  have h2 := Tryz.bits_Add64 ((D * v % 18446744073709551616 + t + 0) % 18446744073709551616) c 0 (by omega)
  refine ⟨D * v / 18446744073709551616, D * v % 18446744073709551616, (D * v % 18446744073709551616 + t + 0) % 18446744073709551616, (D * v % 18446744073709551616 + t + 0) / 18446744073709551616,
    D * v / 18446744073709551616 + (D * v % 18446744073709551616 + t + 0) / 18446744073709551616, ((D * v % 18446744073709551616 + t + 0) % 18446744073709551616 + c + 0) % 18446744073709551616, ((D * v % 18446744073709551616 + t + 0) % 18446744073709551616 + c + 0) / 18446744073709551616,
    D * v / 18446744073709551616 + (D * v % 18446744073709551616 + t + 0) / 18446744073709551616 + ((D * v % 18446744073709551616 + t + 0) % 18446744073709551616 + c + 0) / 18446744073709551616, ?_, h1, ?_, h2, ?_, ?_, ?_, ?_⟩
  · intro w
    refine (Tryz.bits_Mul64 D v hD hv w).mono ?_
    rintro e w' ⟨rfl, rfl⟩; exact ⟨rfl, rfl⟩
  · refine wadd_nat rfl ?_
    generalize D * v = p at *; omega
  · refine wadd_nat rfl ?_
    generalize D * v = p at *; omega
  · exact Nat.mod_lt _ (by omega)
  · generalize D * v = p at *; omega
  · rw [W_eq]; generalize D * v = p at *; omega
/-- A row, when j words of it stand. -/
def RowOk (V D b k j Z c : Nat) : Prop := Z + W ^ (k + j) * c = V + W ^ k * (D * (b % W ^ j)) ∧ Z < W ^ (k + nd W b) ∧ c < 18446744073709551616
theorem rowok_start {V b k D : Nat} (hV : V < W ^ (k + nd W b)) : RowOk V D b k 0 V 0 := by
  unfold RowOk
  refine ⟨?_, hV, by omega⟩
  rw [Nat.pow_zero, Nat.mod_one, Nat.mul_zero, Nat.mul_zero, Nat.mul_zero]
theorem rowok_step {V D b k j Z c nw cy : Nat} (h : RowOk V D b k j Z c) (hj : j < nd W b) (hn : nw < 18446744073709551616) (hc : cy < 18446744073709551616)
    (he : nw + W * cy = D * dgt W b j + dgt W Z (k + j) + c) : RowOk V D b k (j + 1) (put W Z (k + j) nw) cy := by
  obtain ⟨h1, h2, _⟩ := h
  refine ⟨?_, put_lt W2 (by rw [W_eq]; exact hn) h2 (by omega), hc⟩
  have hp := put_eq Z (k + j) nw W0
  rw [mod_succ, Nat.mul_add D, Nat.mul_add (W ^ k), ← Nat.add_assoc V, ← h1]
  rw [show k + (j + 1) = k + j + 1 by omega, Nat.pow_succ, Nat.mul_assoc]
  have e1 : W ^ k * (D * (W ^ j * dgt W b j)) = W ^ (k + j) * (D * dgt W b j) := by
    rw [Nat.pow_add, Nat.mul_left_comm D, Nat.mul_assoc]
  rw [e1]
  have e2 : W ^ (k + j) * nw + W ^ (k + j) * (W * cy) = W ^ (k + j) * (D * dgt W b j) + W ^ (k + j) * dgt W Z (k + j) + W ^ (k + j) * c := by
    rw [← Nat.mul_add, he, Nat.mul_add, Nat.mul_add]
  omega
theorem rowok_end {a b k Z c : Nat} (h : RowOk (a % W ^ k * b) (dgt W a k) b k (nd W b) Z c) : dgt W Z (k + nd W b) = 0 ∧ put W Z (k + nd W b) c = a % W ^ (k + 1) * b := by
  obtain ⟨h1, h2, _⟩ := h
  have hz := dgt_of_lt W2 h2 (Nat.le_refl _)
  refine ⟨hz, ?_⟩
  rw [put_new _ _ _ W0 hz, h1, Nat.mod_eq_of_lt (lt_nd W2), mod_succ, Nat.add_mul, Nat.mul_assoc]
theorem row_lt {a b k : Nat} : a % W ^ k * b < W ^ (k + nd W b) := by
  rw [Nat.pow_add]
  have h1 := mod_lt_pow W0 a k
  have h2 := lt_nd (n := b) W2
  rcases Nat.eq_zero_or_pos b with h | h
  · subst h; rw [Nat.mul_zero]; exact Nat.mul_pos (Nat.pow_pos W0) (Nat.pow_pos W0)
  · exact Nat.lt_of_lt_of_le ((Nat.mul_lt_mul_right h).2 h1) (Nat.mul_le_mul_left _ (by omega))
/-- A row cut out of words. -/
theorem row_slice (g k n lb : Nat) (h : k + lb ≤ n) : ∃ A : Option Addr, (lb ≠ 0 → A = some ⟨g, k, none⟩) ∧ ∀ w, (Instr.sliceAt 74 (.slice (some ⟨g, 0, none⟩) n n) (some (.int .i64 k)) (some (.int .i64 ((k : Int) + (lb : Int)))) (some (.int .i64 ((k : Int) + (lb : Int))))).run Tryz.prog w = .ok (.slice A lb lb) w := by
  refine ⟨if k + lb = k then some ⟨g, 0, none⟩ else some ⟨g, k, none⟩, fun h0 => by rw [if_neg (by omega)], fun w => ?_⟩
  have e : (((k : Int) + (lb : Int))).toNat = k + lb := by omega
  have ht : Tryz.prog.underlying 74 = some (.slice (Tryz.prog.elem 74)) := by kernel_rfl
  rw [run_sliceAt_slice (h := ht), run_slice_lhm w 74 _ _ _ ht .i64 .i64 .i64 _ _ _ (by omega) (by omega) (by omega) (by omega), e]
  have he : Tryz.prog.elem 74 = 66 := by kernel_rfl
  rw [he, Tryz.sizeOf66 w]
  simp only [Result.andThen, sliced, Int.toNat_natCast]
  rw [show k + lb - k = lb by omega]
  by_cases h1 : k + lb = k
  · rw [if_pos h1, if_pos h1]
  · rw [if_neg h1, if_neg h1, Nat.mul_one]
    simp only [Option.map]
    rw [add_plain0]
set_option maxRecDepth 100000 in
set_option maxHeartbeats 2000000 in
theorem Mul_c (A A' : Option Addr) (c c' a b B : Nat) (w : World) (hL : nd W a + nd W b ≤ 1000000000) (hr : Row w B A a (nd W a)) (hr' : Row w B A' b (nd W b)) (hBs : B ≤ w.heap.size) :
    Calls Tryz.prog 129 #[.slice A (nd W a) c, .slice A' (nd W b) c'] w (NumPost (a * b) w) := by
  obtain ⟨i0, hi0, hz0, hz1, hz2⟩ := info_parts (P := Tryz.prog) (e := 66) (z := .int .u64 0) (size := 1) (bytes := 8) (by kernel_rfl)
  have HR := Lib.hid hr
  have HR' := Lib.hid hr'
  have HA := Lib.hid (lt_nd (n := a) W2)
  obtain ⟨la, hla⟩ : ∃ la, la = nd W a := ⟨_, rfl⟩
  obtain ⟨lb, hlb⟩ : ∃ lb, lb = nd W b := ⟨_, rfl⟩
  rw [← hla] at HA
  rw [← hla, ← hlb] at hL ⊢
  rw [← hla] at HR
  rw [← hlb] at HR'
  have HLA := Lib.hid hla
  have HLB := Lib.hid hlb
  have hLi : (la : Int) + (lb : Int) ≤ 1000000000 := by omega
  have hlai : (la : Int) ≤ 1000000000 := by omega
  have hlbi : (lb : Int) ≤ 1000000000 := by omega
  clear hr hr' hla hlb
  go_enter Tryz.func129, Tryz.ntmps129
  go_wp2_with (at_make; go_loud (refine wpList_make_zero _ rfl (.tmp 19) (.tmp 19) _ rfl 66 i0 _ Tryz.underlying74 hi0 hz0 hz1 .i64 .i64 _ _ (la + lb) rfl rfl (by omega) (by omega) (by rw [hz2]; omega) (by unfold maxLen; omega) ?_))
  rw [wcells_made]
  have HB0 := Lib.hid (Blk.new w 66 (wcells 0 (la + lb)))
  have hbl : Below w.heap.size w (w.alloc (.cells (wcells 0 (la + lb)) 66)) := (Below.refl _ _).alloc (Nat.le_refl _) _
  generalize w.alloc (.cells (wcells 0 (la + lb)) 66) = w1 at *
  obtain ⟨g, hg⟩ : ∃ g, g = w.heap.size := ⟨_, rfl⟩
  rw [← hg] at HB0 hbl hBs ⊢
  have HG := Lib.hid hg
  clear hg
  go_loopw [23] (fun i wr => ∃ k : Nat, k ≤ la ∧ i = .int .i64 k ∧ Hid (Blk wr g 66 (wcells (a % W ^ k * b) (la + lb))) ∧ Below g w wr) (fun i _ => la - (intOf i).toNat)
  case atStart => exact ⟨0, Nat.zero_le _, rfl, by rw [mod_one, Nat.zero_mul]; exact HB0, hbl⟩
  case round =>
    obtain ⟨k, hk, rfl, hblk, hb⟩ := hrel
    obtain ⟨wo, rfl⟩ : ∃ wo : World, wo = wr := ⟨_, rfl⟩
    by_cases hlt : k < la
    · obtain ⟨ga, rfl, hga, hca⟩ := HR.out.at_ hlt
      have hca2 := (hb.cell (p := ⟨ga, k, none⟩) (by show ga < g; omega)).trans hca
      clear hca
      have hkl : (k : Int) + (lb : Int) ≤ 1000000000 := by omega
      by_cases hz : dgt W a k = 0
      · have hz' := eqz_true hz
        have HB1 := hblk
        rw [show a % W ^ k * b = a % W ^ (k + 1) * b by rw [mod_succ, hz, Nat.mul_zero, Nat.add_zero]] at HB1
        clear hz
        go_wp2
        go_roundw
        case rel => exact ⟨k + 1, by omega, by go_num, HB1, hb⟩
        case measure => simp [intOf]; omega
      · have hz' := eqz_false hz
        have HZ := Lib.hid hz
        have hkk : k + lb ≤ la + lb := by omega
        have HKK := Lib.hid hkk
        obtain ⟨Ar, hAr, hsl⟩ := row_slice g k (la + lb) lb hkk
        have HAr := Lib.hid hAr
        clear hz hkk hAr
        go_wp2
        have hinit := Lib.hid (rowok_start (D := dgt W a k) (row_lt (a := a) (b := b) (k := k)))
        go_loopw [8, 43] (fun cy i wr => ∃ j Z cc : Nat, j ≤ lb ∧ i = .int .i64 j ∧ cy = .int .u64 cc ∧ Hid (RowOk (a % W ^ k * b) (dgt W a k) b k j Z cc) ∧ Hid (Blk wr g 66 (wcells Z (la + lb))) ∧ Below g w wr) (fun _ i _ => lb - (intOf i).toNat)
        case atStart => exact ⟨0, _, 0, Nat.zero_le _, rfl, rfl, hinit, hblk, hb⟩
        case round =>
          obtain ⟨j, Z, cc, hj, rfl, rfl, hok, hblk2, hb2⟩ := hrel
          by_cases hltj : j < lb
          · obtain rfl : Ar = some ⟨g, k, none⟩ := HAr.out (by omega)
            obtain ⟨gb, rfl, hgb, hcb⟩ := HR'.out.at_ hltj
            have hcb2 := (hb2.cell (p := ⟨gb, j, none⟩) (by show gb < g; omega)).trans hcb
            have hfz := hblk2.out.frozen (k + j)
            have hck := hblk2.out.cell (k + j)
            rw [wcells_get _ _ _ (by have := HKK.out; omega)] at hck
            obtain ⟨hi, lo, lo2, c1, hi2, nw, c2, cy, hmul, ha1, hw1, ha2, hw2, hnw, hcy, heq⟩ := row_words (dgt W a k) (dgt W b j) (dgt W Z (k + j)) cc (wd_lt _ _) (wd_lt _ _) (wd_lt _ _) hok.out.2.2
            have HOK := Lib.hid (rowok_step hok.out (by rw [← HLB.out]; exact hltj) hnw hcy heq)
            have HB1 := Lib.hid (hblk2.out.set_ (k + j) (.int .u64 (nw : Nat)))
            rw [wcells_set _ _ _ _ hnw] at HB1
            have hb1 := hb2.setCell (p := ⟨g, k + j, none⟩) (Nat.le_refl _) (.int .u64 (nw : Nat))
            have HM := Lib.hid hmul
            clear hmul hcb heq hnw hcy
            go_wp2_with (first | simp only [ha1] | simp only [ha2] | (go_at_call 172; refine (HM.out _).mono ?_; rintro e w' ⟨rfl, rfl⟩))
            go_roundw
            case rel => exact ⟨j + 1, _, cy, by omega, by go_num, rfl, HOK, HB1, hb1⟩
            case measure => simp [intOf]; omega
          · obtain rfl : j = lb := by omega
            have hr2 := hok.out
            have e1 := rowok_end (a := a) (b := b) (k := k) (Z := Z) (c := cc) (by rw [← HLB.out]; exact hr2)
            rw [← HLB.out] at e1
            have hfz := hblk2.out.frozen (k + j)
            have hck := hblk2.out.cell (k + j)
            rw [wcells_get _ _ _ (by omega)] at hck
            have HB1 := Lib.hid (hblk2.out.set_ (k + j) (.int .u64 (cc : Nat)))
            rw [wcells_set _ _ _ _ hr2.2.2, e1.2] at HB1
            have hb1 := hb2.setCell (p := ⟨g, k + j, none⟩) (Nat.le_refl _) (.int .u64 (cc : Nat))
            have hkj : (k : Int) + (j : Int) < (la : Int) + (j : Int) := by omega
            have hkj2 : k + j < la + j := by omega
            have HLh := Lib.hid hL
            have hk1 : (k : Int) + 1 ≤ 1000000000 := by omega
            have hk2 : (k : Int) ≤ 1000000000 := by omega
            clear hr2 e1 hj hltj hL hLi hlai hlbi hsl
            go_wp2
            go_roundw
            case rel => exact ⟨k + 1, by omega, by go_num, HB1, hb1⟩
            case measure => simp [intOf]; omega
    · obtain rfl : k = la := by omega
      have HB1 := hblk.out
      rw [Nat.mod_eq_of_lt HA.out] at HB1
      have HB1' := Lib.hid HB1
      have hs : a * b < W ^ (k + lb) := by
        have := row_lt (a := a) (b := b) (k := k)
        rw [Nat.mod_eq_of_lt HA.out, ← HLB.out] at this; exact this
      have HS := Lib.hid hs
      clear HB1 hs
      go_wp2_with fail
      refine (Cut_c (some ⟨g, 0, none⟩) (k + lb) (k + lb) _ (g + 1) _ HS.out (Nat.le_refl _) (by omega) (Row.of_blk HB1'.out (by omega))).mono ?_
      rintro e w' ⟨rfl, rfl⟩
      go_wp2
      go_ret
      have hnd := nd_le W2 HS.out
      exact NumPost.mk hnd ((Row.of_blk HB1'.out HB1'.out.lt).less hnd) (by rw [← HG.out]; exact hb)
end Go.Proofs.YtajcapliokblfaaGreatDoor
set_option linter.unusedSimpArgs false
set_option linter.unusedVariables false
namespace Go.Proofs.YtajcapliokblfaaGreatDoor
open Go Go.RowKit Nt
/-- The strings that stand at A. -/
def Strs (w : World) (A : Option Addr) (ss : List ByteArray) : Prop := 0 < ss.length → ∃ ad, A = some ad ∧ ∀ j (h : j < ss.length), w.cell? (ad.add j) = some (.string ss[j])
theorem Strs.at_ {w : World} {A : Option Addr} {ss : List ByteArray} (h : Strs w A ss) {k : Nat} (hk : k < ss.length) : ∃ ad, A = some ad ∧ w.cell? (ad.add k) = some (.string ss[k]) := by
  obtain ⟨ad, e, hc⟩ := h (by omega); exact ⟨ad, e, hc k hk⟩
theorem block_of_add' (a : Addr) (n : Nat) : (a.add n).block = a.block := by unfold Addr.add; split <;> rfl
instance (s : ByteArray) : Decidable (May s) := inferInstanceAs (Decidable (_ ∧ _))
@[irreducible] def mayE (ss : List ByteArray) : Int := if ∀ s ∈ ss, May s then 0 else 2
theorem mayE_ok {ss : List ByteArray} (h : ∀ s ∈ ss, May s) : mayE ss = 0 := by unfold mayE; rw [if_pos h]
theorem mayE_no {ss : List ByteArray} {s : ByteArray} (h : s ∈ ss) (hs : ¬ May s) : mayE ss = 2 := by unfold mayE; rw [if_neg (fun c => hs (c s h))]
theorem u8_eqz (x : UInt8) (h : x.toNat = 0) : ((x.toNat : Int) == 0) = true := eqz_true h
theorem u8_nez (x : UInt8) (h : x.toNat ≠ 0) : ((x.toNat : Int) == 0) = false := eqz_false h
set_option maxRecDepth 100000 in
set_option maxHeartbeats 400000 in
theorem all_c (A : Option Addr) (c : Nat) (ss : List ByteArray) (w : World) (hl : ss.length ≤ 9223372036854775807) (h : Strs w A ss) :
    Calls Tryz.prog 109 #[.slice A ss.length c] w fun e w' => e = .returned (.int .i64 (mayE ss)) ∧ w = w' := by
  have HS := Lib.hid h
  clear h
  go_enter Tryz.func109, Tryz.ntmps109
  go_wp2
  go_loop [7] (fun i => ∃ k : Nat, k ≤ ss.length ∧ i = .int .i64 k ∧ Hid (∀ s ∈ ss.take k, May s)) (fun i => ss.length - (intOf i).toNat)
  case atStart => exact ⟨0, Nat.zero_le _, rfl, Lib.hid (by simp)⟩
  case round =>
    obtain ⟨k, hk, rfl, hm⟩ := hrel
    by_cases hlt : k < ss.length
    · obtain ⟨ad, rfl, hc⟩ := HS.out.at_ hlt
      have hmem : ss[k] ∈ ss := List.getElem_mem hlt
      have hnext : May ss[k] → ∀ s ∈ ss.take (k + 1), May s := fun h s hs => by
        rw [List.take_succ_eq_append_getElem hlt, List.mem_append] at hs
        rcases hs with hs | hs
        · exact hm.out s hs
        · rw [List.mem_singleton] at hs; rw [hs]; exact h
      have HM := Lib.hid hmem
      have HN := Lib.hid hnext
      clear hmem hnext
      generalize ss[k] = s at *
      by_cases h1 : 16384 < s.size
      · have HB : Hid (¬ May s) := Lib.hid (fun c => by have := c.1; omega)
        have h1' : decide ((s.size : Int) > 16384) = true := decide_eq_true (by omega)
        have h1'' : (16384 : Int) < (s.size : Int) := by omega
        go_wp2
        go_ret
        exact ⟨ret_int (mayE_no HM.out HB.out).symm, rfl⟩
      · have h1'' : ¬ (16384 : Int) < (s.size : Int) := by omega
        have h1s : s.size ≤ 16384 := by omega
        by_cases h2 : s.size = 0
        · have HG : Hid (May s) := Lib.hid ⟨by omega, fun h => by omega⟩
          have h2' : ¬ (0 : Int) < (s.size : Int) := by omega
          have h2'' : ¬ 0 < s.size := by omega
          have H2 := Lib.hid h2
          clear h2
          go_wp2
          go_round
          case rel => exact ⟨k + 1, by omega, by go_num, Lib.hid (HN.out HG.out)⟩
          case measure => simp [intOf]; omega
        · have h2' : 0 < s.size := by omega
          by_cases h3 : (s[0]'h2').toNat = 0
          · have HB : Hid (¬ May s) := Lib.hid (fun c => c.2 h2' h3)
            have h3' := u8_eqz _ h3
            have H3 := Lib.hid h3
            clear h3
            go_wp2
            go_ret
            exact ⟨ret_int (mayE_no HM.out HB.out).symm, rfl⟩
          · have HG : Hid (May s) := Lib.hid ⟨by omega, fun _ => h3⟩
            have h3' := u8_nez _ h3
            have H3 := Lib.hid h3
            clear h3
            go_wp2
            go_round
            case rel => exact ⟨k + 1, by omega, by go_num, Lib.hid (HN.out HG.out)⟩
            case measure => simp [intOf]; omega
    · obtain rfl : k = ss.length := by omega
      go_wp2
      go_ret
      have := hm.out
      rw [List.take_length] at this
      exact ⟨ret_int (mayE_ok this).symm, rfl⟩
/-- A block of texts. -/
theorem strs_new (w : World) (T : TypeId) (ss : List ByteArray) : Strs (w.alloc (.cells (ss.map Value.string).toArray T)) (some ⟨w.heap.size, 0, none⟩) ss := fun _ =>
  ⟨_, rfl, fun j h => by rw [add_plain0, World.cell?_alloc_new]; simp [h]⟩
set_option maxRecDepth 100000 in
theorem Check_c (s : ByteArray) (w : World) :
    Calls Tryz.prog 58 #[.string s] w fun e w' => e = .returned (.int .i64 (mayE [s])) ∧ Below w.heap.size w w' := by
  go_enter Tryz.func58, Tryz.ntmps58
  go_wp2_with fail
  refine (all_c _ 1 [s] _ (by simp) (strs_new w 22 [s])).mono ?_
  rintro e w' ⟨rfl, rfl⟩
  go_wp2
  go_ret
  exact ⟨rfl, (Below.refl _ _).alloc (Nat.le_refl _) _⟩
theorem words_c (n : Nat) (w : World) (hn : fits n) :
    Calls Tryz.prog 117 #[.string (natS n)] w (NumPost n w) := by
  have hz : (natS n).size ≤ 1000000000 := by rw [natS_size]; unfold fits at hn; omega
  have hr := Read_c (natS n) w hz
  rw [bytesN_natS] at hr
  have HR := Lib.hid hr
  clear hr
  go_enter Tryz.func117, Tryz.ntmps117
  go_wp2_with fail
  refine HR.out.mono ?_
  intro e w' hp
  obtain ⟨A, c, rfl, hc, hrow, hb⟩ := hp.get
  go_wp2
  go_ret
  exact NumPost.mk hc hrow hb
/-- The answer of what makes a number, and its error. -/
@[irreducible] def resS (n : Nat) : ByteArray := if fits n then natS n else ⟨#[]⟩
@[irreducible] def resE (n : Nat) : Int := if fits n then 0 else 4
theorem resS_ok {n : Nat} (h : fits n) : resS n = natS n := by unfold resS; rw [if_pos h]
theorem resE_ok {n : Nat} (h : fits n) : resE n = 0 := by unfold resE; rw [if_pos h]
theorem resS_no {n : Nat} (h : ¬ fits n) : resS n = ⟨#[]⟩ := by unfold resS; rw [if_neg h]
theorem resE_no {n : Nat} (h : ¬ fits n) : resE n = 4 := by unfold resE; rw [if_neg h]
/-- A text and an error; memory below is as it was. -/
def StrPost (s : ByteArray) (r : Int) (w : World) (e : Ending) (w' : World) : Prop := e = .returned (.tuple #[.string s, .int .i64 r]) ∧ Below w.heap.size w w'
@[irreducible] def longB (n : Nat) : Bool := decide (131072 < n)
@[local go_sem] theorem gt_long (n : Nat) : decide ((131072 : Int) < (n : Int)) = longB n := by
  unfold longB; rw [Bool.eq_iff_iff, decide_eq_true_iff, decide_eq_true_iff]; omega
theorem longB_iff (n : Nat) : longB (nd 2 n) = decide (¬ fits n) := by
  unfold longB fits
  have := bits_le n 16384
  rw [Bool.eq_iff_iff, decide_eq_true_iff, decide_eq_true_iff]; omega
set_option maxRecDepth 100000 in
theorem made_c (A : Option Addr) (c n B : Nat) (w : World) (hL : nd W n ≤ 1000000000) (hr : Row w B A n (nd W n)) (hB : B ≤ w.heap.size) :
    Calls Tryz.prog 115 #[.slice A (nd W n) c] w (StrPost (resS n) (resE n) w) := by
  have HR := Lib.hid hr
  clear hr
  by_cases h : fits n
  · have hl : longB (nd 2 n) = false := by rw [longB_iff]; simp [h]
    have HE := Lib.hid (resE_ok h)
    have HS := Lib.hid (resS_ok h)
    go_enter Tryz.func115, Tryz.ntmps115
    go_wp2_with (first | (go_at_call 113; refine (Len_c _ _ _ B _ hL HR.out).mono ?_; rintro e w' ⟨rfl, rfl⟩) | (go_at_call 114; refine (Bytes_c _ _ _ B _ hL HR.out hB).mono ?_; rintro e w' ⟨rfl, hb⟩))
    go_ret2
    exact ⟨by rw [HE.out, HS.out]; rfl, hb⟩
  · have hl : longB (nd 2 n) = true := by rw [longB_iff]; simp [h]
    have HE := Lib.hid (resE_no h)
    have HS := Lib.hid (resS_no h)
    go_enter Tryz.func115, Tryz.ntmps115
    go_wp2_with (first | (go_at_call 113; refine (Len_c _ _ _ B _ hL HR.out).mono ?_; rintro e w' ⟨rfl, rfl⟩))
    go_ret2
    exact ⟨by rw [HE.out, HS.out]; rfl, Below.refl _ _⟩
end Go.Proofs.YtajcapliokblfaaGreatDoor
set_option linter.unusedSimpArgs false
set_option linter.unusedVariables false
namespace Go.Proofs.YtajcapliokblfaaGreatDoor
open Go Go.RowKit Nt
@[irreducible] def brB (n : Nat) : Bool := decide (nd 256 n ≤ 8)
@[irreducible] def brN (n : Nat) : Nat := if nd 256 n ≤ 8 then n else 0
theorem brB_yes {n : Nat} (h : nd 256 n ≤ 8) : brB n = true := by unfold brB; exact decide_eq_true h
theorem brB_no {n : Nat} (h : ¬ nd 256 n ≤ 8) : brB n = false := by unfold brB; exact decide_eq_false h
theorem brN_yes {n : Nat} (h : nd 256 n ≤ 8) : brN n = n := by unfold brN; rw [if_pos h]
theorem brN_no {n : Nat} (h : ¬ nd 256 n ≤ 8) : brN n = 0 := by unfold brN; rw [if_neg h]
theorem br_lt {n : Nat} : nd 256 n ≤ 8 ↔ n < 18446744073709551616 := by
  rw [← lt_pow_iff (by omega)]
/-- The value of the bytes ahead of the place k. -/
@[irreducible] def preN (n k : Nat) : Nat := n / 256 ^ (nd 256 n - k)
theorem preN_zero (n : Nat) : preN n 0 = 0 := by unfold preN; rw [Nat.sub_zero]; exact Nat.div_eq_of_lt (lt_nd (by omega))
theorem preN_full (n : Nat) : preN n (nd 256 n) = n := by unfold preN; rw [Nat.sub_self, Nat.pow_zero, Nat.div_one]
theorem preN_succ (n k : Nat) (h : k < nd 256 n) : preN n (k + 1) = 256 * preN n k + dgt 256 n (nd 256 n - 1 - k) := by
  unfold preN
  obtain ⟨m, hm⟩ : ∃ m, nd 256 n = k + 1 + m := ⟨nd 256 n - k - 1, by omega⟩
  rw [hm, show k + 1 + m - (k + 1) = m by omega, show k + 1 + m - k = m + 1 by omega, show k + 1 + m - 1 - k = m by omega, div_eq_dgt (by omega) n m, Nat.add_comm]
theorem preN_le (n k : Nat) : preN n k ≤ n := by unfold preN; exact Nat.div_le_self _ _
set_option maxRecDepth 100000 in
set_option maxHeartbeats 400000 in
theorem brief_c (n : Nat) (w : World) (hf : fits n) :
    Calls Tryz.prog 137 #[.string (natS n)] w fun e w' => e = .returned (.tuple #[.int .u64 (brN n : Nat), .bool (brB n)]) ∧ w = w' := by
  have hsz := natS_size n
  unfold fits at hf
  by_cases h : nd 256 n ≤ 8
  · have HB := Lib.hid (brB_yes h)
    have HN := Lib.hid (brN_yes h)
    have hlt8 : n < 18446744073709551616 := br_lt.1 h
    have HL := Lib.hid hlt8
    have h8 : ¬ 8 < nd 256 n := by omega
    clear hlt8
    go_enter Tryz.func137, Tryz.ntmps137
    go_wp2
    go_loop [2, 10] (fun v i => ∃ k : Nat, k ≤ nd 256 n ∧ i = .int .i64 k ∧ v = .int .u64 (preN n k : Nat)) (fun _ i => nd 256 n - (intOf i).toNat)
    case atStart => exact ⟨0, Nat.zero_le _, rfl, by rw [preN_zero]; rfl⟩
    case round =>
      obtain ⟨k, hk, rfl, rfl⟩ := hrel
      by_cases hlt : k < nd 256 n
      · have hks : k < (natS n).size := by omega
        have e := natS_get n k hks
        have es := preN_succ n k hlt
        have hp1 := preN_le n (k + 1)
        have hHL := HL.out
        have hv : bits .or .u64 (IntKind.u64.wrap ((preN n k : Nat) * 256)) (IntKind.u64.wrap (((natS n)[k].toNat : Nat) : Int)) = ((preN n (k + 1) : Nat) : Int) := by
          have hb := (natS n)[k].toNat_lt
          have e1 : IntKind.u64.wrap ((preN n k : Nat) * 256) = ((256 * preN n k : Nat) : Int) := by rw [IntKind.wrap_u64]; omega
          have e2 : IntKind.u64.wrap (((natS n)[k].toNat : Nat) : Int) = (((natS n)[k].toNat : Nat) : Int) := by rw [IntKind.wrap_u64]; omega
          rw [e1, e2, bits_or_u64_nat _ _ (by omega) (by omega), es, ← e]
          have := or_hi (preN n k) (natS n)[k].toNat 8 hb
          exact congrArg Int.ofNat this
        have HV := Lib.hid hv
        have E := Lib.hid e
        have ES := Lib.hid es
        clear e es hv hp1 hHL
        go_wp2
        go_round
        case rel => exact ⟨k + 1, by omega, by go_num, by rw [HV.out]⟩
        case measure => simp [intOf]; omega
      · obtain rfl : k = nd 256 n := by omega
        rw [preN_full]
        go_wp2
        go_ret2
        exact ⟨by rw [HB.out, HN.out]; rfl, rfl⟩
  · have HB := Lib.hid (brB_no h)
    have HN := Lib.hid (brN_no h)
    have h8 : 8 < nd 256 n := by omega
    go_enter Tryz.func137, Tryz.ntmps137
    go_wp2
    go_ret2
    exact ⟨by rw [HB.out, HN.out]; rfl, rfl⟩
/-- The cells of the array when k bytes stand at its end. -/
def ofF (n k j : Nat) : Nat := if 8 - k ≤ j ∧ j < 8 then dgt 256 n (7 - j) else 0
theorem ofF_step (n k i j : Nat) (h : i + (k + 1) = 8) (hj : j < 8) : (if j = i then dgt 256 n k else ofF n k j) = ofF n (k + 1) j := by
  unfold ofF
  by_cases h1 : j = i
  · rw [if_pos h1, if_pos (by omega)]; congr 1; omega
  · rw [if_neg h1]
    by_cases h2 : 8 - k ≤ j ∧ j < 8
    · rw [if_pos h2, if_pos (by omega)]
    · rw [if_neg h2, if_neg (by omega)]
theorem add_plainO (g k j : Nat) : (⟨g, k, none⟩ : Addr).add j = ⟨g, k + j, none⟩ := by
  unfold Addr.add; split
  · rename_i h; subst h; rfl
  · simp
theorem neqz_true {x : Nat} (h : x ≠ 0) : (((x : Nat) : Int) != 0) = true := by rw [bne_iff_ne]; omega
theorem neqz_false {x : Nat} (h : x = 0) : (((x : Nat) : Int) != 0) = false := by subst h; rfl
theorem arr_slice (g j : Nat) (h : j ≤ 8) : ∃ A : Option Addr, ((8 - j ≠ 0 → A = some ⟨g, j, none⟩) ∧ ∃ ad, A = some ad) ∧ ∀ w, (Instr.sliceAt 148 (.pointer (some ⟨g, 0, none⟩)) (some (.int .i64 j)) none none).run Tryz.prog w = .ok (.slice A (8 - j) (8 - j)) w := by
  refine ⟨if 8 = j then some ⟨g, 0, none⟩ else some ⟨g, j, none⟩, ⟨fun h0 => by rw [if_neg (by omega)], by split <;> exact ⟨_, rfl⟩⟩, fun w => ?_⟩
  have hal : Tryz.prog.arrayLen 148 = 8 := by kernel_rfl
  have ht : Tryz.prog.underlying 148 = some (.array (Tryz.prog.arrayLen 148) (Tryz.prog.elem 148)) := by kernel_rfl
  have he : Tryz.prog.elem 148 = 5 := by kernel_rfl
  rw [run_sliceAt_array_l w 148 ⟨g, 0, none⟩ ht .i64 _ (by omega) (by rw [hal]; omega), he, Tryz.sizeOf5 w, hal]
  simp only [Result.andThen, slicedAt, Int.toNat_natCast]
  by_cases h1 : 8 = j
  · rw [if_pos h1, if_pos h1]
  · rw [if_neg h1, if_neg h1, Nat.mul_one, add_plain0]
set_option maxRecDepth 100000 in
set_option maxHeartbeats 400000 in
theorem Of_n (n : Nat) (w : World) (hn : n < 18446744073709551616) :
    Calls Tryz.prog 74 #[.int .u64 (n : Nat)] w fun e w' => e = .returned (.string (natS n)) ∧ Below w.heap.size w w' := by
  have H8 := Lib.hid (br_lt.2 hn)
  have HN := Lib.hid hn
  clear hn
  go_enter Tryz.func74, Tryz.ntmps74
  go_wp2
  have h0 : (#[Value.int IntKind.u8 0, Value.int IntKind.u8 0, Value.int IntKind.u8 0, Value.int IntKind.u8 0, Value.int IntKind.u8 0, Value.int IntKind.u8 0, Value.int IntKind.u8 0, Value.int IntKind.u8 0] : Array Value) = fcells .u8 (ofF n 0) 8 := by
    rw [fcells_congr (f' := fun _ => 0) (fun j hj => by unfold ofF; rw [if_neg (by omega)])]; rfl
  rw [h0]
  have HB0 := Lib.hid (Blk.new w 148 (fcells .u8 (ofF n 0) 8))
  have hbl : Below w.heap.size w (w.alloc (.cells (fcells .u8 (ofF n 0) 8) 148)) := (Below.refl _ _).alloc (Nat.le_refl _) _
  generalize w.alloc (.cells (fcells .u8 (ofF n 0) 8) 148) = w1 at *
  obtain ⟨g, hg⟩ : ∃ g, g = w.heap.size := ⟨_, rfl⟩
  rw [← hg] at HB0 hbl ⊢
  have HG := Lib.hid hg
  clear hg h0
  go_loopw [0, 4] (fun x i wr => ∃ (k m j : Nat), x = .int .u64 m ∧ i = .int .i64 j ∧ Hid (j + k = 8) ∧ Hid (m = n / 256 ^ k) ∧ Hid (k ≤ nd 256 n) ∧ Hid (Blk wr g 148 (fcells .u8 (ofF n k) 8)) ∧ Below g w wr) (fun _ i _ => (intOf i).toNat)
  case atStart => exact ⟨0, n, 8, rfl, rfl, Lib.hid rfl, Lib.hid (by rw [Nat.pow_zero, Nat.div_one]), Lib.hid (Nat.zero_le _), HB0, hbl⟩
  case round =>
    obtain ⟨k, m, j, rfl, rfl, hj, hm, hk, hblk, hb⟩ := hrel
    by_cases h0 : m = 0
    · have hz := neqz_false h0
      have hnd : nd 256 n = k := by
        have h1 := hm.out
        rw [h0] at h1
        have h2 : n < 256 ^ k := by
          rcases Nat.lt_or_ge n (256 ^ k) with h | h
          · exact h
          · have := Nat.div_pos h (Nat.pow_pos (n := k) (show 0 < 256 by omega)); omega
        have := nd_le (b := 256) (by omega) h2
        have := hk.out; omega
      have HND := Lib.hid hnd
      obtain ⟨A, hA, hsl⟩ := arr_slice g j (by have := hj.out; omega)
      have hcv : ∀ W, W = wr → (convert 64 22 (.slice A (8 - j) (8 - j))).run Tryz.prog W = .ok (.string (natS n)) W := by
        rintro W rfl
        have hl : ((dl 256 n (nd 256 n)).reverse.map UInt8.ofNat).length = 8 - j := by simp [dl_length, hnd]; have := hj.out; omega
        rcases Nat.eq_zero_or_pos k with hk0 | hk0
        · have e0 : (dl 256 n (nd 256 n)).reverse.map UInt8.ofNat = [] := by rw [hnd, hk0]; rfl
          have h8 : 8 - j = 0 := by have := hj.out; omega
          obtain ⟨ad, rfl⟩ := hA.2
          have h := run_convert_bytes_back (P := Tryz.prog) W 64 22 5 ad (8 - j) ((dl 256 n (nd 256 n)).reverse.map UInt8.ofNat) Tryz.underlying64 Tryz.underlying5 Tryz.underlying22 (fun i hi => by rw [hl] at hi; omega)
          rw [hl, ← natS_def] at h
          exact h
        · obtain rfl := hA.1 (by have := hj.out; omega)
          have h := run_convert_bytes_back (P := Tryz.prog) W 64 22 5 ⟨g, j, none⟩ (8 - j) ((dl 256 n (nd 256 n)).reverse.map UInt8.ofNat) Tryz.underlying64 Tryz.underlying5 Tryz.underlying22 (fun i hi => by
            have hi' : i < 8 - j := by rw [← hl]; exact hi
            rw [add_plainO, hblk.out.cell, fcells_get _ _ _ _ (by omega)]
            have e := natS_get n i (by rw [natS_size, hnd]; have := hj.out; omega)
            rw [ba_get] at e
            simp only [natS_def] at e
            rw [List.getElem_toArray] at e
            rw [e]
            unfold ofF
            have hj' := hj.out
            rw [if_pos (by omega), hnd, show 7 - (j + i) = k - 1 - i by omega])
          rw [hl, ← natS_def] at h
          exact h
      have hcv' := hcv wr rfl
      have hmz := Lib.hid h0
      clear hcv h0 hnd
      go_wp2
      go_ret
      exact ⟨rfl, by rw [← HG.out]; exact hb⟩
    · have hz := neqz_true h0
      have hnd : k < nd 256 n := by
        rcases Nat.lt_or_ge k (nd 256 n) with h | h
        · exact h
        · have := (lt_pow_iff (b := 256) (by omega) k n).2 h
          have h2 := hm.out
          rw [Nat.div_eq_of_lt this] at h2; omega
      obtain ⟨i, hi⟩ : ∃ i, j = i + 1 := ⟨j - 1, by have := hj.out; have := H8.out; omega⟩
      subst hi
      have hi8 : i < 8 := by have := hj.out; omega
      have hij : ((i : Int) + 1) - 1 = (i : Int) := by omega
      have hfz := hblk.out.frozen i
      have hck := hblk.out.cell i
      rw [fcells_get _ _ _ _ hi8] at hck
      have hv : IntKind.u8.wrap (m : Int) = ((dgt 256 n k : Nat) : Int) := by rw [wrap_u8, hm.out, dgt_def]
      have hm2 : (m : Int) / 256 = ((m / 256 : Nat) : Int) := by omega
      obtain ⟨m', hm'⟩ : ∃ m', m' = m / 256 := ⟨_, rfl⟩
      rw [← hm'] at hm2
      have HM' : Hid (m' = n / 256 ^ (k + 1)) := Lib.hid (by rw [hm', hm.out, Nat.pow_succ, Nat.div_div_eq_div_mul])
      have HB1 := Lib.hid (hblk.out.set_ i (.int .u8 (dgt 256 n k : Nat)))
      rw [fcells_set, fcells_congr (f' := ofF n (k + 1)) (fun x hx => ofF_step n k i x (by have := hj.out; omega) hx)] at HB1
      have hb1 := hb.setCell (p := ⟨g, i, none⟩) (Nat.le_refl _) (.int .u8 (dgt 256 n k : Nat))
      have HJ : Hid (i + (k + 1) = 8) := Lib.hid (by have := hj.out; omega)
      have HK : Hid (k + 1 ≤ nd 256 n) := Lib.hid (by omega)
      clear h0 hnd hm'
      go_wp2
      go_roundw
      case rel => exact ⟨k + 1, m', i, rfl, rfl, HJ, HM', HK, HB1, hb1⟩
      case measure => simp [intOf]
end Go.Proofs.YtajcapliokblfaaGreatDoor
set_option linter.unusedSimpArgs false
set_option linter.unusedVariables false
namespace Go.Proofs.YtajcapliokblfaaGreatDoor
open Go Go.RowKit Nt
/-! The order of texts. -/
theorem ba_toList (s : ByteArray) : s.toList = s.data.toList := Go.ByteArray.toList_eq s
theorem natS_list_eq (a b : Nat) : (natS a).toList = (natS b).toList ↔ a = b := by
  constructor
  · intro h
    rw [ba_toList, ba_toList] at h
    exact natS_inj (ByteArray.ext (Array.toList_inj.1 h))
  · rintro rfl; rfl
theorem may2 {a b : Nat} (ha : fits a) (hb : fits b) : mayE [natS a, natS b] = 0 := mayE_ok (fun s hs => by
  rcases List.mem_cons.1 hs with rfl | hs
  · exact (may_natS a).2 ha
  · rw [List.mem_singleton.1 hs]; exact (may_natS b).2 hb)
theorem may1 {a : Nat} (ha : fits a) : mayE [natS a] = 0 := mayE_ok (fun s hs => by rw [List.mem_singleton.1 hs]; exact (may_natS a).2 ha)
set_option maxRecDepth 100000 in
theorem Small_c (n : Nat) (w : World) (hf : fits n) :
    Calls Tryz.prog 142 #[.string (natS n)] w fun e w' => e = .returned (.tuple #[.int .u64 (brN n : Nat), .bool (brB n)]) ∧ Below w.heap.size w w' := by
  have hm := may1 hf
  go_enter Tryz.func142, Tryz.ntmps142
  go_wp2_with (first | (go_at_call 58; refine (Check_c _ _).mono ?_; rintro e w1 ⟨rfl, hb⟩) | (go_at_call 137; refine (brief_c n _ hf).mono ?_; rintro e w' ⟨rfl, rfl⟩))
  go_ret2
  exact ⟨rfl, hb⟩
/-- Two integers and memory below as it was. -/
def IntPost (a b : Int) (w : World) (e : Ending) (w' : World) : Prop := e = .returned (.tuple #[.int .i64 a, .int .i64 b]) ∧ Below w.heap.size w w'
end Go.Proofs.YtajcapliokblfaaGreatDoor
set_option linter.unusedSimpArgs false
set_option linter.unusedVariables false
namespace Go.Proofs.YtajcapliokblfaaGreatDoor
open Go Go.RowKit Nt
theorem fits_words {n : Nat} (h : fits n) : nd W n ≤ 2048 := by
  unfold fits at h; rw [← words_bytes]; omega
theorem mul_words (a b : Nat) : nd W (a * b) ≤ nd W a + nd W b := by
  refine nd_le W2 ?_
  rw [Nat.pow_add]
  have h1 := lt_nd (n := a) W2
  have h2 := lt_nd (n := b) W2
  rcases Nat.eq_zero_or_pos b with h | h
  · subst h; rw [Nat.mul_zero]; exact Nat.mul_pos (Nat.pow_pos W0) (Nat.pow_pos W0)
  · exact Nat.lt_of_lt_of_le ((Nat.mul_lt_mul_right h).2 h1) (Nat.mul_le_mul_left _ (by omega))
end Go.Proofs.YtajcapliokblfaaGreatDoor
set_option linter.unusedSimpArgs false
set_option linter.unusedVariables false
namespace Go.Proofs.YtajcapliokblfaaGreatDoor
open Go Go.RowKit Nt
theorem fits_le {m n : Nat} (h : fits n) (hm : m ≤ n) : fits m := by unfold fits at *; exact Nat.le_trans (nd_mono (by omega) hm) h
theorem natS_empty {n : Nat} (h : n = 0) : (natS n).toList = [] := by subst h; rw [natS_zero, ba_toList]
theorem natS_full {n : Nat} (h : n ≠ 0) : ¬ (natS n).toList = [] := fun c => by
  rw [ba_toList] at c
  have h1 : (natS n).size = 0 := by show (natS n).data.size = 0; rw [← Array.length_toList, c]; rfl
  rw [natS_size, nd_eq_zero (by omega)] at h1; exact h h1
theorem natS_full2 {n : Nat} (h : n ≠ 0) : (natS n).toList.isEmpty = false := by
  have := natS_full h
  cases h2 : (natS n).toList with
  | nil => exact absurd h2 this
  | cons x l => rfl
theorem cmp_neg {a b : Nat} (h : a < b) : decide (cmpN a b < 0) = true := by rw [cmpN_lt h]; rfl
theorem cmp_pos {a b : Nat} (h : b ≤ a) : decide (cmpN a b < 0) = false := by
  rcases Nat.eq_or_lt_of_le h with h1 | h1
  · subst h1; rw [cmpN_eq]; rfl
  · rw [cmpN_gt h1]; rfl
@[irreducible] def longI (z : Int) : Bool := decide (131072 < z)
@[local go_sem] theorem gt_longI (z : Int) : decide ((131072 : Int) < z) = longI z := by unfold longI; rfl
end Go.Proofs.YtajcapliokblfaaGreatDoor
set_option linter.unusedSimpArgs false
set_option linter.unusedVariables false
namespace Go.Proofs.YtajcapliokblfaaGreatDoor
open Go Go.RowKit Nt
theorem below_chain {a b c : World} (h1 : Below a.heap.size a b) (h2 : Below b.heap.size b c) : Below a.heap.size a c := h1.trans (h2.mono h1.size)
/-- A slice of the call's own that holds these numbers. -/
def Own (w : World) (B : Nat) (T : TypeId) (k : IntKind) (v : Value) (l : List Nat) : Prop := w.ownsRow B T 1 v l.length (l.map (fun (x : Nat) => Value.int k (x : Int)))
theorem Own.nil (w : World) (B : Nat) (T : TypeId) (k : IntKind) : Own w B T k (.slice none 0 0) [] := World.ownsRow_nil w B T 1
theorem Own.form {w : World} {B : Nat} {T : TypeId} {k : IntKind} {v : Value} {l : List Nat} (h : Own w B T k v l) :
    (v = .slice none 0 0 ∧ l = []) ∨ ∃ g cap cs, v = .slice (some ⟨g, 0, none⟩) l.length cap ∧ B ≤ g ∧ g < w.heap.size ∧ Blk w g T cs ∧ l.length ≤ cap ∧ cap ≤ 9223372036854775807 ∧ ∀ j, (hj : j < l.length) → cs[j]? = some (.int k (l[j] : Nat)) := by
  rcases h.2 with ⟨rfl, h0⟩ | ⟨g, cap, cur, rfl, hB, hh, hn, hm, hs, ht⟩
  · exact Or.inl ⟨rfl, List.eq_nil_of_length_eq_zero h0⟩
  · refine Or.inr ⟨g, cap, cur, rfl, hB, Blk.lt hh, hh, hn, by simpa [maxLen] using hm, fun j hj => ?_⟩
    have e := congrArg (fun x => x[j]?) ht
    simp only [Nat.mul_one] at e
    rw [List.getElem?_take, if_pos hj, List.getElem?_map, List.getElem?_eq_getElem hj] at e
    rw [← Array.getElem?_toList]; exact e
theorem Own.cell {w : World} {B : Nat} {T : TypeId} {k : IntKind} {v : Value} {l : List Nat} (h : Own w B T k v l) {j : Nat} (hj : j < l.length) :
    ∃ g cap, v = .slice (some ⟨g, 0, none⟩) l.length cap ∧ B ≤ g ∧ g < w.heap.size ∧ w.cell? ⟨g, j, none⟩ = some (.int k (l[j] : Nat)) ∧ w.frozen? ⟨g, j, none⟩ = false := by
  rcases h.form with ⟨_, rfl⟩ | ⟨g, cap, cs, rfl, hB, hg, hb, _, _, hc⟩
  · simp at hj
  · exact ⟨g, cap, rfl, hB, hg, by rw [hb.cell, hc j hj], hb.frozen j⟩
theorem Own.below {w w' : World} {B B' : Nat} {T : TypeId} {k : IntKind} {v : Value} {l : List Nat} (h : Own w B T k v l) (hb : Below B' w w') (hB : ∀ g, v.ownBlock = some g → g < B') : Own w' B T k v l := by
  rcases h.2 with ⟨rfl, h0⟩ | ⟨g, cap, cur, rfl, hB1, hh, hn, hm, hs, ht⟩
  · exact ⟨h.1, Or.inl ⟨rfl, h0⟩⟩
  · exact ⟨h.1, Or.inr ⟨g, cap, cur, rfl, hB1, (hb.block g (hB g rfl)).trans hh, hn, hm, hs, ht⟩⟩
theorem Own.base {w : World} {B B' : Nat} {T : TypeId} {k : IntKind} {v : Value} {l : List Nat} (h : Own w B T k v l) (hB : B' ≤ B) : Own w B' T k v l := by
  rcases h.2 with ⟨rfl, h0⟩ | ⟨g, cap, cur, rfl, hB1, hh, hn, hm, hs, ht⟩
  · exact ⟨h.1, Or.inl ⟨rfl, h0⟩⟩
  · exact ⟨h.1, Or.inr ⟨g, cap, cur, rfl, by omega, hh, hn, hm, hs, ht⟩⟩
theorem Own.lt {w : World} {B : Nat} {T : TypeId} {k : IntKind} {v : Value} {l : List Nat} (h : Own w B T k v l) : ∀ g, v.ownBlock = some g → B ≤ g ∧ g < w.heap.size := World.ownsRow.lt h
theorem Own.whole {w w' : World} {B : Nat} {T : TypeId} {k : IntKind} {v : Value} {l : List Nat} (h : Own w B T k v l) (hb : Below w.heap.size w w') : Own w' B T k v l := h.below hb fun g e => (h.lt g e).2
theorem Own.drewN {w : World} {B : Nat} {T : TypeId} {k : IntKind} {v : Value} {l : List Nat} (h : Own w B T k v l) (n : Nat) : Own (w.drewN n) B T k v l := h
theorem Own.len {w : World} {B : Nat} {T : TypeId} {k : IntKind} {v : Value} {l : List Nat} (h : Own w B T k v l) : ∃ A c, v = .slice A l.length c ∧ l.length ≤ c := by
  rcases h.form with ⟨rfl, rfl⟩ | ⟨g, cap, cs, rfl, _, _, _, hc, _⟩
  · exact ⟨none, 0, rfl, Nat.le_refl _⟩
  · exact ⟨_, _, rfl, hc⟩
/-- What an append leaves as it was. -/
def Frm (w0 w' : World) (v : Value) : Prop := ∀ k, k < w0.heap.size → some k ≠ v.ownBlock → w'.heap[k]? = w0.heap[k]?
theorem Frm.cell {w0 w' : World} {v : Value} (h : Frm w0 w' v) {p : Addr} (hp : p.block < w0.heap.size) (hne : some p.block ≠ v.ownBlock) : w'.cell? p = w0.cell? p := World.cell?_of_block (h p.block hp hne)
end Go.Proofs.YtajcapliokblfaaGreatDoor
set_option linter.unusedSimpArgs false
set_option linter.unusedVariables false
namespace Go.Proofs.YtajcapliokblfaaGreatDoor
open Go Go.RowKit Nt
/-- A box of three cells. -/
def Bx3 (w : World) (B : Nat) (c : Value × Value × Value) : Prop := ∃ T : TypeId, Blk w B T #[c.1, c.2.1, c.2.2]
theorem Bx3.facts {w : World} {B : Nat} {c : Value × Value × Value} (h : Bx3 w B c) : B < w.heap.size ∧ w.cell? ⟨B, 0, none⟩ = some c.1 ∧ w.cell? ⟨B, 1, none⟩ = some c.2.1 ∧ w.cell? ⟨B, 2, none⟩ = some c.2.2 ∧ w.frozen? ⟨B, 0, none⟩ = false ∧ w.frozen? ⟨B, 1, none⟩ = false ∧ w.frozen? ⟨B, 2, none⟩ = false := by
  obtain ⟨T, h⟩ := h
  exact ⟨h.lt, by rw [h.cell]; rfl, by rw [h.cell]; rfl, by rw [h.cell]; rfl, h.frozen 0, h.frozen 1, h.frozen 2⟩
theorem Bx3.step {w w' : World} {B : Nat} {c : Value × Value × Value} (h : Bx3 w B c) (hb : Below w.heap.size w w') : Bx3 w' B c := by
  obtain ⟨T, h⟩ := h; exact ⟨T, h.below hb h.lt⟩
theorem Bx3.more {w : World} {B : Nat} {c : Value × Value × Value} (h : Bx3 w B c) (o : Obj) : Bx3 (w.alloc o) B c := by
  obtain ⟨T, h⟩ := h; exact ⟨T, h.alloc o⟩
theorem Bx3.new (w : World) (a b c : Value) (T : TypeId) : Bx3 (w.alloc (.cells #[a, b, c] T)) w.heap.size (a, b, c) := ⟨T, Blk.new w _ _⟩
theorem Bx3.put {w : World} {B : Nat} {c : Value × Value × Value} (h : Bx3 w B c) (x y z : Value) : Bx3 (((w.setCell ⟨B, 0, none⟩ x).setCell ⟨B, 1, none⟩ y).setCell ⟨B, 2, none⟩ z) B (x, y, z) := by
  obtain ⟨T, h⟩ := h
  exact ⟨T, by simpa using ((h.set_ 0 x).set_ 1 y).set_ 2 z⟩
theorem Bx3.far {w : World} {B C : Nat} {c : Value × Value × Value} (h : Bx3 w B c) (hne : B ≠ C) (x y z : Value) : Bx3 (((w.setCell ⟨C, 0, none⟩ x).setCell ⟨C, 1, none⟩ y).setCell ⟨C, 2, none⟩ z) B c := by
  obtain ⟨T, h⟩ := h
  exact ⟨T, ((h.far (p := ⟨C, 0, none⟩) hne x).far (p := ⟨C, 1, none⟩) hne y).far (p := ⟨C, 2, none⟩) hne z⟩
theorem below_put3 {n : Nat} {w W : World} {A : Nat} (hb : Below n w W) (hA : n ≤ A) (a' b' c' : Value) : Below n w (((W.setCell ⟨A, 0, none⟩ a').setCell ⟨A, 1, none⟩ b').setCell ⟨A, 2, none⟩ c') :=
  ((hb.setCell (p := ⟨A, 0, none⟩) hA a').setCell (p := ⟨A, 1, none⟩) hA b').setCell (p := ⟨A, 2, none⟩) hA c'
abbrev C3 := Value × Value × Value
/-- From w on: boxes that stay, and behind them one for what is answered. -/
def BR (w : World) (l : List C3) (W : World) : Prop := Below w.heap.size w W ∧ (∀ i c, l[i]? = some c → Bx3 W (w.heap.size + i) c) ∧ ∃ (b : Bool) (y z : Value), Bx3 W (w.heap.size + l.length) (.bool b, y, z)
theorem BR.step {w : World} {l : List C3} {W W' : World} (h : BR w l W) (hb : Below W.heap.size W W') : BR w l W' := by
  obtain ⟨b, y, z, hc⟩ := h.2.2
  exact ⟨below_chain h.1 hb, fun i c hi => (h.2.1 i c hi).step hb, b, y, z, hc.step hb⟩
theorem BR.more {w : World} {l : List C3} {W : World} (h : BR w l W) (o : Obj) : BR w l (W.alloc o) := h.step ((Below.refl _ _).alloc (Nat.le_refl _) _)
theorem BR.drawn {w : World} {l : List C3} {W : World} (h : BR w l W) (n : Nat) : BR w l (W.drewN n) := h.step (below_drewN (Below.refl _ _) n)
theorem BR.drew {w : World} {l : List C3} {W : World} (h : BR w l W) : BR w l W.drew := h.step (Below.refl _ _).drew
theorem BR.put {w : World} {l : List C3} {W : World} (h : BR w l W) {n : Nat} (hn : l.length = n) (x : Bool) (y z : Value) : BR w l (((W.setCell ⟨w.heap.size + n, 0, none⟩ (.bool x)).setCell ⟨w.heap.size + n, 1, none⟩ y).setCell ⟨w.heap.size + n, 2, none⟩ z) := by
  subst hn
  obtain ⟨b, y', z', hc⟩ := h.2.2
  refine ⟨below_put3 h.1 (by omega) _ _ _, fun i c hi => (h.2.1 i c hi).far ?_ _ _ _, _, _, _, hc.put (.bool x) y z⟩
  have := (List.getElem?_eq_some_iff.1 hi).1
  omega
/-- A row of words doesn't lie in a box that begins with a bool. -/
theorem Row.put3 {W : World} {B : Nat} {A : Option Addr} {n L C : Nat} (hr : Row W B A n L) {b : Bool} (hc : W.cell? ⟨C, 0, none⟩ = some (.bool b)) (x y z : Value) : Row (((W.setCell ⟨C, 0, none⟩ x).setCell ⟨C, 1, none⟩ y).setCell ⟨C, 2, none⟩ z) B A n L := fun hL => by
  obtain ⟨g, e, hg, hcell⟩ := hr hL
  refine ⟨g, e, hg, fun j hj => ?_⟩
  have hne : g ≠ C := fun c => by
    have := hcell 0 hL
    rw [c, hc] at this
    cases this
  have h1 : ∀ (U : World) (i : Nat) (v : Value), (U.setCell ⟨C, i, none⟩ v).cell? ⟨g, j, none⟩ = U.cell? ⟨g, j, none⟩ := fun U i v => by
    unfold World.cell?
    rw [show (U.setCell ⟨C, i, none⟩ v).heap[g]? = U.heap[g]? from by simp [World.setCell, Array.getElem?_modify, Ne.symm hne]]
  rw [h1, h1, h1]
  exact hcell j hj
theorem BR.row {w : World} {l : List C3} {W : World} (h : BR w l W) {n : Nat} (hn : l.length = n) {B : Nat} {A : Option Addr} {m L : Nat} (hr : Row W B A m L) (x y z : Value) : Row (((W.setCell ⟨w.heap.size + n, 0, none⟩ x).setCell ⟨w.heap.size + n, 1, none⟩ y).setCell ⟨w.heap.size + n, 2, none⟩ z) B A m L := by
  subst hn
  obtain ⟨b, y', z', hc⟩ := h.2.2
  exact hr.put3 hc.facts.2.1 x y z
theorem BR.box {w : World} {l : List C3} {W : World} (h : BR w l W) (i : Nat) (c : C3) (hi : l[i]? = some c) : w.heap.size + i < W.heap.size ∧ W.cell? ⟨w.heap.size + i, 0, none⟩ = some c.1 ∧ W.cell? ⟨w.heap.size + i, 1, none⟩ = some c.2.1 ∧ W.cell? ⟨w.heap.size + i, 2, none⟩ = some c.2.2 ∧ W.frozen? ⟨w.heap.size + i, 0, none⟩ = false ∧ W.frozen? ⟨w.heap.size + i, 1, none⟩ = false ∧ W.frozen? ⟨w.heap.size + i, 2, none⟩ = false := (h.2.1 i c hi).facts
/-- What stands in a cell. -/
@[irreducible] def celAt (W : World) (B i : Nat) : Value := (W.cell? ⟨B, i, none⟩).getD undef
theorem celAt_eq {W : World} {B i : Nat} {v : Value} (h : W.cell? ⟨B, i, none⟩ = some v) : W.cell? ⟨B, i, none⟩ = some (celAt W B i) := by unfold celAt; rw [h]; rfl
theorem BR.res {w : World} {l : List C3} {W : World} (h : BR w l W) {n : Nat} (hn : l.length = n) : w.heap.size + n < W.heap.size ∧ W.cell? ⟨w.heap.size + n, 0, none⟩ = some (celAt W (w.heap.size + n) 0) ∧ W.cell? ⟨w.heap.size + n, 1, none⟩ = some (celAt W (w.heap.size + n) 1) ∧ W.cell? ⟨w.heap.size + n, 2, none⟩ = some (celAt W (w.heap.size + n) 2) ∧ W.frozen? ⟨w.heap.size + n, 0, none⟩ = false ∧ W.frozen? ⟨w.heap.size + n, 1, none⟩ = false ∧ W.frozen? ⟨w.heap.size + n, 2, none⟩ = false := by
  subst hn
  obtain ⟨b, y, z, hc⟩ := h.2.2
  obtain ⟨r0, r1, r2, r3, r4, r5, r6⟩ := hc.facts
  exact ⟨r0, celAt_eq r1, celAt_eq r2, celAt_eq r3, r4, r5, r6⟩
theorem BR.res0 {w : World} {W : World} (h : BR w [] W) : w.heap.size < W.heap.size ∧ W.cell? ⟨w.heap.size, 0, none⟩ = some (celAt W w.heap.size 0) ∧ W.cell? ⟨w.heap.size, 1, none⟩ = some (celAt W w.heap.size 1) ∧ W.cell? ⟨w.heap.size, 2, none⟩ = some (celAt W w.heap.size 2) ∧ W.frozen? ⟨w.heap.size, 0, none⟩ = false ∧ W.frozen? ⟨w.heap.size, 1, none⟩ = false ∧ W.frozen? ⟨w.heap.size, 2, none⟩ = false := h.res (n := 0) rfl
theorem BR.start0 (w : World) (x : Bool) (y z : Value) (U : TypeId) : BR w [] (w.alloc (.cells #[.bool x, y, z] U)) := by
  refine ⟨(Below.refl _ _).alloc (Nat.le_refl _) _, fun i d hi => ?_, x, y, z, Bx3.new w (.bool x) y z U⟩
  simp at hi
theorem BR.start1 (w : World) (a b c : Value) (x : Bool) (y z : Value) (T U : TypeId) : BR w [(a, b, c)] ((w.alloc (.cells #[a, b, c] T)).alloc (.cells #[.bool x, y, z] U)) := by
  refine ⟨((Below.refl _ _).alloc (Nat.le_refl _) _).alloc (by simp) _, fun i d hi => ?_, x, y, z, by have := Bx3.new (w.alloc (.cells #[a, b, c] T)) (.bool x) y z U; simpa using this⟩
  match i, hi with
  | 0, hi => cases hi; exact (Bx3.new w a b c T).more _
  | n + 1, hi => simp at hi
theorem BR.start2 (w : World) (a b c a' b' c' : Value) (x : Bool) (y z : Value) (T T' U : TypeId) : BR w [(a, b, c), (a', b', c')] (((w.alloc (.cells #[a, b, c] T)).alloc (.cells #[a', b', c'] T')).alloc (.cells #[.bool x, y, z] U)) := by
  refine ⟨(((Below.refl _ _).alloc (Nat.le_refl _) _).alloc (by simp) _).alloc (by simp; omega) _, fun i d hi => ?_, x, y, z, by have := Bx3.new ((w.alloc (.cells #[a, b, c] T)).alloc (.cells #[a', b', c'] T')) (.bool x) y z U; simpa using this⟩
  match i, hi with
  | 0, hi => cases hi; exact ((Bx3.new w a b c T).more _).more _
  | 1, hi => cases hi; have := (Bx3.new (w.alloc (.cells #[a, b, c] T)) a' b' c' T').more (.cells #[.bool x, y, z] U); simpa using this
  | n + 2, hi => simp at hi
/-- Two boxes without one for the answer: the second serves as the last. -/
theorem BR.pair (w : World) (a b c : Value) (a' : Bool) (b' c' : Value) (T T' : TypeId) : BR w [(a, b, c)] ((w.alloc (.cells #[a, b, c] T)).alloc (.cells #[.bool a', b', c'] T')) := BR.start1 w a b c a' b' c' T T'
end Go.Proofs.YtajcapliokblfaaGreatDoor
set_option linter.unusedSimpArgs false
set_option linter.unusedVariables false
namespace Go.Proofs.YtajcapliokblfaaGreatDoor
open Go Go.RowKit Nt
/-- A Ratio's value. -/
@[reducible] noncomputable def qv (q : Rat) : Value := .agg #[.bool (qG q), .string (natS (qN q)), .string (natS (qD q))]
def qfits (q : Rat) : Prop := fits (qN q) ∧ fits (qD q)
open Classical in
@[irreducible] noncomputable def rsG (q : Rat) : Bool := if qfits q then qG q else false
open Classical in
@[irreducible] noncomputable def rsN (q : Rat) : ByteArray := if qfits q then natS (qN q) else ⟨#[]⟩
open Classical in
@[irreducible] noncomputable def rsD (q : Rat) : ByteArray := if qfits q then natS (qD q) else ⟨#[]⟩
open Classical in
@[irreducible] noncomputable def rsE (q : Rat) : Int := if qfits q then 0 else 4
theorem rs_ok {q : Rat} (h : qfits q) : rsG q = qG q ∧ rsN q = natS (qN q) ∧ rsD q = natS (qD q) ∧ rsE q = 0 := by
  unfold rsG rsN rsD rsE; rw [if_pos h, if_pos h, if_pos h, if_pos h]; exact ⟨rfl, rfl, rfl, rfl⟩
theorem rs_no {q : Rat} (h : ¬ qfits q) : rsG q = false ∧ rsN q = ⟨#[]⟩ ∧ rsD q = ⟨#[]⟩ ∧ rsE q = 4 := by
  unfold rsG rsN rsD rsE; rw [if_neg h, if_neg h, if_neg h, if_neg h]; exact ⟨rfl, rfl, rfl, rfl⟩
/-- What lowest gives. -/
def LwPost (q : Rat) (w : World) (e : Ending) (w' : World) : Prop := e = .returned (.tuple #[.agg #[.bool (rsG q), .string (rsN q), .string (rsD q)], .int .i64 (rsE q)]) ∧ Below w.heap.size w w'
/-- What a function that makes a fraction leaves. -/
def FrPost (g : Bool) (n d : Nat) (w : World) (e : Ending) (w' : World) : Prop :=
  ∃ A c A' c', e = .returned (.agg #[.bool g, .slice A (nd W n) c, .slice A' (nd W d) c']) ∧ nd W n ≤ c ∧ nd W d ≤ c' ∧ Row w' w'.heap.size A n (nd W n) ∧ Row w' w'.heap.size A' d (nd W d) ∧ Below w.heap.size w w'
theorem bits_131072'' {n : Nat} : ((131072 : Int) < (nd 2 n : Int)) ↔ ¬ fits n := by
  have := bits_le n 16384
  unfold fits
  omega
theorem Pwords_c (n : Nat) (w : World) (hn : fits n) :
    Calls Tryz.prog 59 #[.string (natS n)] w (NumPost n w) := by
  have hz : (natS n).size ≤ 1000000000 := by rw [natS_size]; unfold fits at hn; omega
  have hr := Read_c (natS n) w hz
  rw [bytesN_natS] at hr
  have HR := Lib.hid hr
  clear hr
  go_enter Tryz.func59, Tryz.ntmps59
  go_wp2_with fail
  refine HR.out.mono ?_
  intro e w' hp
  obtain ⟨A, c, rfl, hc, hrow, hb⟩ := hp.get
  go_wp2
  go_ret
  exact NumPost.mk hc hrow hb
set_option maxRecDepth 100000 in
set_option maxHeartbeats 1000000 in
theorem Popen_c (g : Bool) (n d : Nat) (w : World) (hn : fits n) (hd : fits d) :
    Calls Tryz.prog 81 #[.agg #[.bool g, .string (natS n), .string (natS d)]] w (FrPost g n d w) := by
  have K1 := Lib.hid (fun w => Pwords_c n w hn)
  have K2 := Lib.hid (fun w => Pwords_c d w hd)
  have T0 := BR.start1 w (.bool g) (.string (natS n)) (.string (natS d)) false (.slice none 0 0) (.slice none 0 0) 24 77
  have L0 : ∀ W, BR w [(.bool g, .string (natS n), .string (natS d))] W → W.cell? ⟨w.heap.size, 0, none⟩ = some (.bool g) := fun W h => (h.box 0 _ rfl).2.1
  have L1 : ∀ W, BR w [(.bool g, .string (natS n), .string (natS d))] W → W.cell? ⟨w.heap.size, 1, none⟩ = some (.string (natS n)) := fun W h => (h.box 0 _ rfl).2.2.1
  have L2 : ∀ W, BR w [(.bool g, .string (natS n), .string (natS d))] W → W.cell? ⟨w.heap.size, 2, none⟩ = some (.string (natS d)) := fun W h => (h.box 0 _ rfl).2.2.2.1
  have M1 := fun W (h : BR w [(.bool g, .string (natS n), .string (natS d))] W) => (h.res (n := 1) rfl).2.1
  have M2 := fun W (h : BR w [(.bool g, .string (natS n), .string (natS d))] W) => (h.res (n := 1) rfl).2.2.1
  have M3 := fun W (h : BR w [(.bool g, .string (natS n), .string (natS d))] W) => (h.res (n := 1) rfl).2.2.2.1
  have M4 := fun W (h : BR w [(.bool g, .string (natS n), .string (natS d))] W) => (h.res (n := 1) rfl).2.2.2.2.1
  have M5 := fun W (h : BR w [(.bool g, .string (natS n), .string (natS d))] W) => (h.res (n := 1) rfl).2.2.2.2.2.1
  have M6 := fun W (h : BR w [(.bool g, .string (natS n), .string (natS d))] W) => (h.res (n := 1) rfl).2.2.2.2.2.2
  clear hn hd
  go_enter Tryz.func81, Tryz.ntmps81
  go_wp2_with fail
  go_region_held3 (BR w [(.bool g, .string (natS n), .string (natS d))]) (first | assumption | exact BR.step (by assumption) (by assumption) | exact BR.put (by assumption) rfl _ _ _ | exact BR.drew (by assumption) | exact BR.drawn (by assumption) _)
    (first
      | (go_at_call 59; (with_reducible refine (K1.out _).mono ?_); rintro e wa hp; obtain ⟨A1, c1, rfl, hc1, hr1, hb1⟩ := hp.get; clear hp)
      | (go_at_call 59; (with_reducible refine (K2.out _).mono ?_); rintro e wb hp; obtain ⟨A2, c2, rfl, hc2, hr2, hb2⟩ := hp.get; clear hp; have HSV := Lib.hid (BR.step (w := w) (by assumption) hb2)))
  have HR1 := Lib.hid (HSV.out.row (n := 1) rfl ((hr1.below hb2).more hb2.size))
  have HR2 := Lib.hid (HSV.out.row (n := 1) rfl hr2)
  obtain ⟨r0, r1, r2, r3, r4, r5, r6⟩ := HSV.out.res (n := 1) rfl
  have hfin := below_put3 HSV.out.1 (show w.heap.size ≤ w.heap.size + 1 by omega)
  clear L0 L1 L2 M1 M2 M3 M4 M5 M6 hr1 hr2 hb1 hb2
  go_wp2_with fail
  refine bodyPost_ret (v := .agg #[.bool g, .slice A1 (nd W n) c1, .slice A2 (nd W d) c2]) (by simp [results, Tryz.results81, go_sem, r0, r1, r2, r3]) rfl ⟨A1, c1, A2, c2, rfl, hc1, hc2, ?_, ?_, hfin _ _ _⟩
  · simpa using HR1.out _ _ _
  · simpa using HR2.out _ _ _
end Go.Proofs.YtajcapliokblfaaGreatDoor
set_option linter.unusedSimpArgs false
set_option linter.unusedVariables false
namespace Go.Proofs.YtajcapliokblfaaGreatDoor
open Go Go.RowKit Nt
theorem ad_same {g h : Bool} (x y : Nat) (hg : g = h) : adG g x h y = g ∧ adN g x h y = x + y := by unfold adG adN; rw [if_pos hg, if_pos hg]; exact ⟨rfl, rfl⟩
theorem ad_less {g h : Bool} {x y : Nat} (hg : ¬ g = h) (hl : x < y) : adG g x h y = h ∧ adN g x h y = y - x := by unfold adG adN; rw [if_neg hg, if_neg hg, if_pos hl, if_pos hl]; exact ⟨rfl, rfl⟩
theorem ad_more {g h : Bool} {x y : Nat} (hg : ¬ g = h) (hl : ¬ x < y) : adG g x h y = g ∧ adN g x h y = x - y := by unfold adG adN; rw [if_neg hg, if_neg hg, if_neg hl, if_neg hl]; exact ⟨rfl, rfl⟩
theorem nd_mul_le {a b k m : Nat} (ha : nd W a ≤ k) (hb : nd W b ≤ m) : nd W (a * b) ≤ k + m := Nat.le_trans (mul_words a b) (Nat.add_le_add ha hb)
set_option maxRecDepth 100000 in
set_option maxHeartbeats 2000000 in
theorem Fadd_c (g h : Bool) (n d m e : Nat) (A A' B B' : Option Addr) (c c' b b' : Nat) (w : World) (h1 : nd W n ≤ 20000) (h2 : nd W d ≤ 20000) (h3 : nd W m ≤ 20000) (h4 : nd W e ≤ 20000) (r1 : Row w w.heap.size A n (nd W n)) (r2 : Row w w.heap.size A' d (nd W d)) (r3 : Row w w.heap.size B m (nd W m)) (r4 : Row w w.heap.size B' e (nd W e)) :
    Calls Tryz.prog 77 #[.agg #[.bool g, .slice A (nd W n) c, .slice A' (nd W d) c'], .agg #[.bool h, .slice B (nd W m) b, .slice B' (nd W e) b']] w (FrPost (adG g (n * e) h (m * d)) (adN g (n * e) h (m * d)) (d * e) w) := by
  obtain ⟨bl, hbl⟩ : ∃ bl : List C3, bl = [(.bool g, .slice A (nd W n) c, .slice A' (nd W d) c'), (.bool h, .slice B (nd W m) b, .slice B' (nd W e) b')] := ⟨_, rfl⟩
  have hbn : bl.length = 2 := by rw [hbl]; rfl
  have T0 := BR.start2 w (.bool g) (.slice A (nd W n) c) (.slice A' (nd W d) c') (.bool h) (.slice B (nd W m) b) (.slice B' (nd W e) b') false (.slice none 0 0) (.slice none 0 0) 77 77 77
  rw [← hbl] at T0
  have L0 : ∀ U, BR w bl U → U.cell? ⟨w.heap.size, 0, none⟩ = some (.bool g) := fun U hU => (hU.box 0 (.bool g, .slice A (nd W n) c, .slice A' (nd W d) c') (by rw [hbl]; rfl)).2.1
  have L1 : ∀ U, BR w bl U → U.cell? ⟨w.heap.size, 1, none⟩ = some (.slice A (nd W n) c) := fun U hU => (hU.box 0 (.bool g, .slice A (nd W n) c, .slice A' (nd W d) c') (by rw [hbl]; rfl)).2.2.1
  have L2 : ∀ U, BR w bl U → U.cell? ⟨w.heap.size, 2, none⟩ = some (.slice A' (nd W d) c') := fun U hU => (hU.box 0 (.bool g, .slice A (nd W n) c, .slice A' (nd W d) c') (by rw [hbl]; rfl)).2.2.2.1
  have L3 : ∀ U, BR w bl U → U.cell? ⟨w.heap.size + 1, 0, none⟩ = some (.bool h) := fun U hU => (hU.box 1 (.bool h, .slice B (nd W m) b, .slice B' (nd W e) b') (by rw [hbl]; rfl)).2.1
  have L4 : ∀ U, BR w bl U → U.cell? ⟨w.heap.size + 1, 1, none⟩ = some (.slice B (nd W m) b) := fun U hU => (hU.box 1 (.bool h, .slice B (nd W m) b, .slice B' (nd W e) b') (by rw [hbl]; rfl)).2.2.1
  have L5 : ∀ U, BR w bl U → U.cell? ⟨w.heap.size + 1, 2, none⟩ = some (.slice B' (nd W e) b') := fun U hU => (hU.box 1 (.bool h, .slice B (nd W m) b, .slice B' (nd W e) b') (by rw [hbl]; rfl)).2.2.2.1
  have M1 := fun U (hU : BR w bl U) => (hU.res (n := 2) hbn).2.1
  have M2 := fun U (hU : BR w bl U) => (hU.res (n := 2) hbn).2.2.1
  have M3 := fun U (hU : BR w bl U) => (hU.res (n := 2) hbn).2.2.2.1
  have M4 := fun U (hU : BR w bl U) => (hU.res (n := 2) hbn).2.2.2.2.1
  have M5 := fun U (hU : BR w bl U) => (hU.res (n := 2) hbn).2.2.2.2.2.1
  have M6 := fun U (hU : BR w bl U) => (hU.res (n := 2) hbn).2.2.2.2.2.2
  have HBL := Lib.hid hbl
  clear hbl
  have K1 : Hid (∀ W', BR w bl W' → Calls Tryz.prog 129 #[.slice A (nd W n) c, .slice B' (nd W e) b'] W' (NumPost (n * e) W')) := Lib.hid fun W' hT => Mul_c A B' c b' n e W'.heap.size W' (by omega) ((r1.below hT.1).more hT.1.size) ((r4.below hT.1).more hT.1.size) (Nat.le_refl _)
  have K2 : Hid (∀ W', BR w bl W' → Calls Tryz.prog 129 #[.slice B (nd W m) b, .slice A' (nd W d) c'] W' (NumPost (m * d) W')) := Lib.hid fun W' hT => Mul_c B A' b c' m d W'.heap.size W' (by omega) ((r3.below hT.1).more hT.1.size) ((r2.below hT.1).more hT.1.size) (Nat.le_refl _)
  have K3 : Hid (∀ W', BR w bl W' → Calls Tryz.prog 129 #[.slice A' (nd W d) c', .slice B' (nd W e) b'] W' (NumPost (d * e) W')) := Lib.hid fun W' hT => Mul_c A' B' c' b' d e W'.heap.size W' (by omega) ((r2.below hT.1).more hT.1.size) ((r4.below hT.1).more hT.1.size) (Nat.le_refl _)
  obtain ⟨X, hX⟩ : ∃ X, X = n * e := ⟨_, rfl⟩
  obtain ⟨Y, hY⟩ : ∃ Y, Y = m * d := ⟨_, rfl⟩
  obtain ⟨D, hD⟩ : ∃ D, D = d * e := ⟨_, rfl⟩
  have hx1 : nd W X ≤ 40000 := by rw [hX]; exact nd_mul_le h1 h4
  have hy1 : nd W Y ≤ 40000 := by rw [hY]; exact nd_mul_le h3 h2
  rw [← hX, ← hY, ← hD]
  rw [← hX] at K1
  rw [← hY] at K2
  rw [← hD] at K3
  clear r1 r2 r3 r4 h1 h2 h3 h4 hX hY hD
  go_enter Tryz.func77, Tryz.ntmps77
  go_wp2_with fail
  go_region_held3 (BR w bl) (first | assumption | exact BR.step (by assumption) (by assumption) | exact BR.put (by assumption) hbn _ _ _ | exact BR.drew (by assumption) | exact BR.drawn (by assumption) _)
    (first
      | (go_at_call 129; (with_reducible refine (K1.out _ (by assumption)).mono ?_); rintro ee wa hp; obtain ⟨A1, c1, rfl, hc1, hr1, hb1⟩ := hp.get; clear hp)
      | (go_at_call 129; (with_reducible refine (K2.out _ (by assumption)).mono ?_); rintro ee wb hp; obtain ⟨A2, c2, rfl, hc2, hr2, hb2⟩ := hp.get; clear hp))
  rename_i hHeld
  have hr1' := (hr1.below hb2).more hb2.size
  have T2 := hHeld
  have HR1 := Lib.hid hr1'
  have HR2 := Lib.hid hr2
  clear hHeld hr1 hr1' hr2 hb1 hb2 K1 K2
  obtain ⟨p0, p1, p2, p3, p4, p5, p6⟩ := T2.box 0 (.bool g, .slice A (nd W n) c, .slice A' (nd W d) c') (by rw [HBL.out]; rfl)
  obtain ⟨s0, s1, s2, s3, s4, s5, s6⟩ := T2.box 1 (.bool h, .slice B (nd W m) b, .slice B' (nd W e) b') (by rw [HBL.out]; rfl)
  go_wp2_with fail
  refine (K3.out _ T2).mono ?_
  rintro ee wc hp
  obtain ⟨A3, c3, rfl, hc3, hr3, hb3⟩ := hp.get
  replace T2 := T2.step hb3
  have HR1' := Lib.hid ((HR1.out.below hb3).more hb3.size)
  have HR2' := Lib.hid ((HR2.out.below hb3).more hb3.size)
  have HR3 := Lib.hid hr3
  clear hp hr3 hb3 HR1 HR2 p0 p1 p2 p3 p4 p5 p6 s0 s1 s2 s3 s4 s5 s6 K3
  obtain ⟨p0, p1, p2, p3, p4, p5, p6⟩ := T2.box 0 (.bool g, .slice A (nd W n) c, .slice A' (nd W d) c') (by rw [HBL.out]; rfl)
  obtain ⟨s0, s1, s2, s3, s4, s5, s6⟩ := T2.box 1 (.bool h, .slice B (nd W m) b, .slice B' (nd W e) b') (by rw [HBL.out]; rfl)
  by_cases hg : g = h
  case' pos =>
    have hE := Lib.hid (ad_same X Y hg)
    have hgb : (g == h) = true := by rw [hg]; exact beq_self_eq_true h
    clear hg
    go_wp2_with fail
    have T3 : BR w bl (wc).drew := T2.drew
    have KO := Lib.hid (Add_c A1 A2 c1 c2 X Y _ wc.drew (by omega) (by omega) (HR1'.out.drewN 1) (HR2'.out.drewN 1) (Nat.le_refl _))
    clear p0 p1 p2 p3 p4 p5 p6 s0 s1 s2 s3 s4 s5 s6
    go_region_held3 (BR w bl) (first | assumption | exact BR.step (by assumption) (by assumption) | exact BR.put (by assumption) hbn _ _ _ | exact BR.drew (by assumption) | exact BR.drawn (by assumption) _)
      (first | (go_at_call 130; (refine KO.out.mono ?_); rintro ee wd hp; obtain ⟨A4, c4, rfl, hc4, hr4, hb4⟩ := hp.get; clear hp; have HSV := Lib.hid (BR.step (w := w) (by assumption) hb4)))
    have hr3' := ((HR3.out.drewN 1).below hb4).more hb4.size
    clear KO T3
    have HR1 := Lib.hid (HSV.out.row (n := 2) hbn hr4)
    have HR2 := Lib.hid (HSV.out.row (n := 2) hbn hr3')
    obtain ⟨q0, q1, q2, q3, q4, q5, q6⟩ := HSV.out.res (n := 2) hbn
    have hfin := below_put3 HSV.out.1 (show w.heap.size ≤ w.heap.size + 2 by omega)
    clear L0 L1 L2 L3 L4 L5 M1 M2 M3 M4 M5 M6 T0
    try clear T2
    try clear p0 p1 p2 p3 p4 p5 p6
    try clear s0 s1 s2 s3 s4 s5 s6
    go_wp2_with fail
    refine bodyPost_ret (v := .agg #[.bool g, .slice A4 (nd W (X + Y)) c4, .slice A3 (nd W D) c3]) (by simp [results, Tryz.results77, go_sem, q0, q1, q2, q3]) rfl ?_
    show FrPost (adG g X h Y) (adN g X h Y) D w _ _
    rw [hE.out.1, hE.out.2]
    refine ⟨A4, c4, A3, c3, rfl, hc4, hc3, ?_, ?_, hfin _ _ _⟩
    · simpa using HR1.out _ _ _
    · simpa using HR2.out _ _ _
  case' neg =>
    have hgb : (g == h) = false := beq_eq_false_iff_ne.2 hg
    have HG := Lib.hid hg
    clear hg
    have KC := Lib.hid (Cmp_c A1 A2 c1 c2 X Y _ wc (by omega) (by omega) HR1'.out HR2'.out)
    go_wp2_with fail
    refine KC.out.mono ?_
    rintro ee w6 ⟨rfl, nn, rfl⟩
    by_cases hl : X < Y
    case' pos =>
      have hcn := cmp_neg hl
      have hE := Lib.hid (ad_less HG.out hl)
      have HL := Lib.hid hl
      clear hl KC
      generalize cmpN X Y = cc at *
      go_wp2_with fail
      have T3 : BR w bl (wc.drewN nn).drew := (T2.drawn nn).drew
      have KO := Lib.hid (Sub_c A2 A1 c2 c1 Y X _ (wc.drewN nn).drew (Nat.le_of_lt HL.out) (by omega) (HR2'.out.drewN (nn + 1)) (HR1'.out.drewN (nn + 1)) (Nat.le_refl _))
      clear p0 p1 p2 p3 p4 p5 p6 s0 s1 s2 s3 s4 s5 s6
      go_region_held3 (BR w bl) (first | assumption | exact BR.step (by assumption) (by assumption) | exact BR.put (by assumption) hbn _ _ _ | exact BR.drew (by assumption) | exact BR.drawn (by assumption) _)
        (first | (go_at_call 132; (refine KO.out.mono ?_); rintro ee wd hp; obtain ⟨A4, c4, rfl, hc4, hr4, hb4⟩ := hp.get; clear hp; have HSV := Lib.hid (BR.step (w := w) (by assumption) hb4)))
      have hr3' := ((HR3.out.drewN (nn + 1)).below hb4).more hb4.size
      clear KO T3
      have HR1 := Lib.hid (HSV.out.row (n := 2) hbn hr4)
      have HR2 := Lib.hid (HSV.out.row (n := 2) hbn hr3')
      obtain ⟨q0, q1, q2, q3, q4, q5, q6⟩ := HSV.out.res (n := 2) hbn
      have hfin := below_put3 HSV.out.1 (show w.heap.size ≤ w.heap.size + 2 by omega)
      clear L0 L1 L2 L3 L4 L5 M1 M2 M3 M4 M5 M6 T0
      try clear T2
      try clear p0 p1 p2 p3 p4 p5 p6
      try clear s0 s1 s2 s3 s4 s5 s6
      go_wp2_with fail
      refine bodyPost_ret (v := .agg #[.bool h, .slice A4 (nd W (Y - X)) c4, .slice A3 (nd W D) c3]) (by simp [results, Tryz.results77, go_sem, q0, q1, q2, q3]) rfl ?_
      show FrPost (adG g X h Y) (adN g X h Y) D w _ _
      rw [hE.out.1, hE.out.2]
      refine ⟨A4, c4, A3, c3, rfl, hc4, hc3, ?_, ?_, hfin _ _ _⟩
      · simpa using HR1.out _ _ _
      · simpa using HR2.out _ _ _
    case' neg =>
      have hcn := cmp_pos (Nat.le_of_not_lt hl)
      have hE := Lib.hid (ad_more HG.out hl)
      have HL := Lib.hid hl
      clear hl KC
      generalize cmpN X Y = cc at *
      go_wp2_with fail
      have T3 : BR w bl (wc.drewN nn).drew := (T2.drawn nn).drew
      have KO := Lib.hid (Sub_c A1 A2 c1 c2 X Y _ (wc.drewN nn).drew (Nat.le_of_not_lt HL.out) (by omega) (HR1'.out.drewN (nn + 1)) (HR2'.out.drewN (nn + 1)) (Nat.le_refl _))
      clear p0 p1 p2 p3 p4 p5 p6 s0 s1 s2 s3 s4 s5 s6
      go_region_held3 (BR w bl) (first | assumption | exact BR.step (by assumption) (by assumption) | exact BR.put (by assumption) hbn _ _ _ | exact BR.drew (by assumption) | exact BR.drawn (by assumption) _)
        (first | (go_at_call 132; (refine KO.out.mono ?_); rintro ee wd hp; obtain ⟨A4, c4, rfl, hc4, hr4, hb4⟩ := hp.get; clear hp; have HSV := Lib.hid (BR.step (w := w) (by assumption) hb4)))
      have hr3' := ((HR3.out.drewN (nn + 1)).below hb4).more hb4.size
      clear KO T3
      have HR1 := Lib.hid (HSV.out.row (n := 2) hbn hr4)
      have HR2 := Lib.hid (HSV.out.row (n := 2) hbn hr3')
      obtain ⟨q0, q1, q2, q3, q4, q5, q6⟩ := HSV.out.res (n := 2) hbn
      have hfin := below_put3 HSV.out.1 (show w.heap.size ≤ w.heap.size + 2 by omega)
      clear L0 L1 L2 L3 L4 L5 M1 M2 M3 M4 M5 M6 T0
      try clear T2
      try clear p0 p1 p2 p3 p4 p5 p6
      try clear s0 s1 s2 s3 s4 s5 s6
      go_wp2_with fail
      refine bodyPost_ret (v := .agg #[.bool g, .slice A4 (nd W (X - Y)) c4, .slice A3 (nd W D) c3]) (by simp [results, Tryz.results77, go_sem, q0, q1, q2, q3]) rfl ?_
      show FrPost (adG g X h Y) (adN g X h Y) D w _ _
      rw [hE.out.1, hE.out.2]
      refine ⟨A4, c4, A3, c3, rfl, hc4, hc3, ?_, ?_, hfin _ _ _⟩
      · simpa using HR1.out _ _ _
      · simpa using HR2.out _ _ _
end Go.Proofs.YtajcapliokblfaaGreatDoor
set_option linter.unusedVariables false
namespace Go.Proofs.YtajcapliokblfaaGreatDoor
open Nt
theorem ndB_mul (a b : Nat) : nd 256 (a * b) ≤ nd 256 a + nd 256 b := by
  refine nd_le (by omega) ?_
  rw [Nat.pow_add]
  have h1 := lt_nd (b := 256) (n := a) (by omega)
  have h2 := lt_nd (b := 256) (n := b) (by omega)
  exact Nat.mul_lt_mul'' h1 h2
theorem ndB_add {a b k : Nat} (ha : nd 256 a ≤ k) (hb : nd 256 b ≤ k) : nd 256 (a + b) ≤ k + 1 := by
  refine nd_le (by omega) ?_
  have h1 := Nat.lt_of_lt_of_le (lt_nd (b := 256) (n := a) (by omega)) (Nat.pow_le_pow_right (by omega) ha)
  have h2 := Nat.lt_of_lt_of_le (lt_nd (b := 256) (n := b) (by omega)) (Nat.pow_le_pow_right (by omega) hb)
  rw [Nat.pow_succ]; omega
theorem ndB_mono {a b : Nat} (h : a ≤ b) : nd 256 a ≤ nd 256 b := nd_mono (by omega) h
/-- A rational number's parts have at most k bytes. -/
def Bq (q : Rat) (k : Nat) : Prop := nd 256 (qN q) ≤ k ∧ nd 256 (qD q) ≤ k
theorem adN_le (g : Bool) (x : Nat) (h : Bool) (y : Nat) : adN g x h y ≤ x + y := by
  unfold adN
  by_cases c : x < y <;> cases g <;> cases h <;> simp [c] <;> omega
theorem Bq_fr {g : Bool} {n d k : Nat} (hd : d ≠ 0) (h1 : nd 256 n ≤ k) (h2 : nd 256 d ≤ k) : Bq (fr g n d) k :=
  ⟨Nat.le_trans (ndB_mono (qN_le g n d hd)) h1, Nat.le_trans (ndB_mono (qD_le g n d hd)) h2⟩
theorem Bq.add {x y : Rat} {k m : Nat} (hx : Bq x k) (hy : Bq y m) : Bq (x + y) (k + m + 1) := by
  rw [← fr_add]
  refine Bq_fr (Nat.mul_ne_zero (qD_pos x) (qD_pos y)) ?_ ?_
  · refine Nat.le_trans (ndB_mono (adN_le _ _ _ _)) (ndB_add (k := k + m) ?_ ?_)
    · have := ndB_mul (qN x) (qD y); have := hx.1; have := hy.2; omega
    · have := ndB_mul (qN y) (qD x); have := hx.2; have := hy.1; omega
  · have := ndB_mul (qD x) (qD y); have := hx.2; have := hy.2; omega
theorem Bq.mul {x y : Rat} {k m : Nat} (hx : Bq x k) (hy : Bq y m) : Bq (x * y) (k + m) := by
  rw [← fr_mul]
  refine Bq_fr (Nat.mul_ne_zero (qD_pos x) (qD_pos y)) ?_ ?_
  · have := ndB_mul (qN x) (qN y); have := hx.1; have := hy.1; omega
  · have := ndB_mul (qD x) (qD y); have := hx.2; have := hy.2; omega
theorem Bq.neg {x : Rat} {k : Nat} (hx : Bq x k) : Bq (-x) k := by
  have := q_neg x
  unfold Bq
  rw [this.2.1, this.2.2]; exact hx
theorem Bq.sub {x y : Rat} {k m : Nat} (hx : Bq x k) (hy : Bq y m) : Bq (x - y) (k + m + 1) := by
  rw [Rat.sub_eq_add_neg]; exact hx.add hy.neg
theorem Bq.quo {x y : Rat} {k m : Nat} (hx : Bq x k) (hy : Bq y m) (h0 : qN y ≠ 0) : Bq (x / y) (k + m) := by
  rw [← fr_quo x y h0]
  refine Bq_fr (Nat.mul_ne_zero (qD_pos x) h0) ?_ ?_
  · have := ndB_mul (qN x) (qD y); have := hx.1; have := hy.2; omega
  · have := ndB_mul (qD x) (qN y); have := hx.2; have := hy.1; omega
end Go.Proofs.YtajcapliokblfaaGreatDoor
set_option linter.unusedSimpArgs false
set_option linter.unusedVariables false
namespace Go.Proofs.YtajcapliokblfaaGreatDoor
open Go Go.RowKit Nt
/-- What a division leaves. -/
def DivPost (q r : Nat) (w : World) (e : Ending) (w' : World) : Prop :=
  ∃ A c A' c', e = .returned (.tuple #[.slice A (nd W q) c, .slice A' (nd W r) c']) ∧ nd W q ≤ c ∧ nd W r ≤ c' ∧ Row w' w'.heap.size A q (nd W q) ∧ Row w' w'.heap.size A' r (nd W r) ∧ Below w.heap.size w w'
theorem one_word {b : Nat} (h : nd W b = 1) : dgt W b 0 = b ∧ b ≠ 0 ∧ b < 18446744073709551616 := by
  have h1 : b < W ^ 1 := (lt_pow_iff W2 1 b).2 (by omega)
  rw [Nat.pow_one] at h1
  refine ⟨by rw [dgt_def, Nat.pow_zero, Nat.div_one, Nat.mod_eq_of_lt h1], fun c => ?_, by rw [← W_eq]; exact h1⟩
  subst c; rw [nd_zero] at h; omega
set_option maxRecDepth 100000 in
set_option maxHeartbeats 1000000 in
theorem Div_one (A A' : Option Addr) (c c' a b : Nat) (w : World) (hb1 : nd W b = 1) (hab : b ≤ a) (hL : nd W a ≤ 1000000000) (hr : Row w w.heap.size A a (nd W a)) (hr' : Row w w.heap.size A' b (nd W b)) :
    Calls Tryz.prog 112 #[.slice A (nd W a) c, .slice A' (nd W b) c'] w (DivPost (a / b) (a % b) w) := by
  have hcmp := cmp_pos hab
  have hcm := Cmp_c A A' c c' a b w.heap.size w hL (by omega) hr hr'
  have HCM := Lib.hid hcm
  obtain ⟨g', rfl, hg', hcell⟩ := hr'.at_ (k := 0) (by omega)
  obtain ⟨e1, e2, e3⟩ := one_word hb1
  rw [e1] at hcell
  have HR := Lib.hid hr
  have HR' := Lib.hid hr'
  have HE2 := Lib.hid e2
  have HE3 := Lib.hid e3
  have HLL := Lib.hid hL
  have H1 := Lib.hid hb1
  rw [hb1] at HCM ⊢
  clear hcm hr hr' e1 e2 e3 hab hL hb1
  go_enter Tryz.func112, Tryz.ntmps112
  go_wp2
  go_step3
  go_wp2_with (first
    | (go_at_call 131; refine HCM.out.mono ?_; rintro e w1 ⟨rfl, nn, rfl⟩)
    | (go_at_call 149; refine (Take_c A c a b _ _ HE2.out HE3.out HLL.out (HR.out.drewN nn) (Nat.le_refl _)).mono ?_; rintro e w2 ⟨A2, c2, rfl, hA2, hs2, hc2, hr2, hb2⟩; have HR2 := Lib.hid hr2; clear hA2 hr2)
    | (go_at_call 164; refine (Of_c _ _ (by exact Nat.lt_of_lt_of_le (Nat.mod_lt _ (Nat.pos_of_ne_zero HE2.out)) (Nat.le_of_lt HE3.out))).mono ?_; intro e w3 hp; obtain ⟨A3, c3, rfl, hc3, hr3, hb3⟩ := hp.get; have HR3 := Lib.hid hr3; clear hr3 hp))
  rw [Exit.noGoto_ret]
  go_ret2
  exact ⟨_, _, _, _, rfl, hc2, hc3, (HR2.out.below hb3).more hb3.size, HR3.out, (below_drewN (Below.refl _ _) nn).trans (hb2.trans (hb3.mono hb2.size))⟩
end Go.Proofs.YtajcapliokblfaaGreatDoor
set_option linter.unusedSimpArgs false
set_option linter.unusedVariables false
namespace Nt
/-- The guess is not too small. -/
theorem est_hi {U v k m q : Nat} (hv : W ^ m ≤ v) (h : q * (W ^ k * v) ≤ U) : q ≤ U / W ^ (k + m) / (v / W ^ m) := by
  have hV : 0 < v / W ^ m := Nat.div_pos hv (Nat.pow_pos W0)
  rw [Nat.le_div_iff_mul_le hV, Nat.le_div_iff_mul_le (Nat.pow_pos W0)]
  have h1 : v / W ^ m * W ^ m ≤ v := Nat.div_mul_le_self _ _
  have h2 : q * (W ^ k * (v / W ^ m * W ^ m)) ≤ q * (W ^ k * v) := Nat.mul_le_mul_left _ (Nat.mul_le_mul_left _ h1)
  refine Nat.le_trans (Nat.le_of_eq ?_) (Nat.le_trans h2 h)
  rw [Nat.pow_add, Nat.mul_assoc, Nat.mul_left_comm (v / W ^ m)]
/-- The guess is too great by one at most. -/
theorem est_lo {U v k m g : Nat} (hv : W ^ (m + 1) ≤ v) (hg : g ≤ W) (h : g * (v / W ^ m) ≤ U / W ^ (k + m)) : g * (W ^ k * v) ≤ U + W ^ k * v := by
  have h1 := Nat.mod_add_div v (W ^ m)
  have h2 : v % W ^ m < W ^ m := Nat.mod_lt _ (Nat.pow_pos W0)
  have h3 : g * (v / W ^ m) * W ^ (k + m) ≤ U := by
    rwa [Nat.le_div_iff_mul_le (Nat.pow_pos W0)] at h
  have h4 : g * (v % W ^ m) ≤ W * W ^ m := Nat.mul_le_mul hg (Nat.le_of_lt h2)
  have h5 : W * W ^ m = W ^ (m + 1) := by rw [Nat.pow_succ, Nat.mul_comm]
  have h6 : g * (W ^ k * v) = W ^ k * (g * (v % W ^ m)) + g * (v / W ^ m) * W ^ (k + m) := by
    conv => lhs; rw [← h1]
    rw [Nat.mul_add, Nat.mul_add, Nat.pow_add]
    congr 1
    · rw [Nat.mul_left_comm]
    · rw [Nat.mul_assoc, Nat.mul_left_comm (v / W ^ m), Nat.mul_comm (v / W ^ m)]
  have h7 : W ^ k * (g * (v % W ^ m)) ≤ W ^ k * v := Nat.mul_le_mul_left _ (by omega)
  omega
/-- The guess where the highest words are the same. -/
theorem est_top {U v k n x y : Nat} (hx : x = v / W ^ n) (hy : y = U / W ^ (k + n + 1)) (hxy : x ≤ y) (hn : W ≤ 2 * x) : (W - 2) * (W ^ k * v) ≤ U := by
  have h1 := Nat.mod_add_div v (W ^ n)
  have h2 : v % W ^ n < W ^ n := Nat.mod_lt _ (Nat.pow_pos W0)
  have h3 : y * W ^ (k + n + 1) ≤ U := by rw [hy]; exact Nat.div_mul_le_self _ _
  rw [← hx] at h1
  have hv : v ≤ W ^ n * (x + 1) := by rw [Nat.mul_add]; omega
  have h4 : (W - 2) * (x + 1) ≤ x * W := by
    obtain ⟨c, hc⟩ : ∃ c, W = c + 2 := ⟨W - 2, by have := W2; omega⟩
    rw [hc] at hn ⊢
    rw [Nat.add_sub_cancel, Nat.mul_add, Nat.mul_add, Nat.mul_comm c x]; omega
  calc (W - 2) * (W ^ k * v) ≤ (W - 2) * (W ^ k * (W ^ n * (x + 1))) := Nat.mul_le_mul_left _ (Nat.mul_le_mul_left _ hv)
    _ = W ^ (k + n) * ((W - 2) * (x + 1)) := by rw [Nat.pow_add]; simp only [Nat.mul_left_comm, Nat.mul_comm, Nat.mul_assoc]
    _ ≤ W ^ (k + n) * (x * W) := Nat.mul_le_mul_left _ h4
    _ = x * W ^ (k + n + 1) := by rw [Nat.pow_succ]; simp only [Nat.mul_left_comm, Nat.mul_comm, Nat.mul_assoc]
    _ ≤ y * W ^ (k + n + 1) := Nat.mul_le_mul_right _ hxy
    _ ≤ U := h3
/-- What the guess of a digit is. -/
def guessN (u2 u1 u0 v1 v0 : Nat) : Nat := if v1 ≤ u2 then W - 1 else ((u2 * W + u1) * W + u0) / (v1 * W + v0)
theorem turn3 (a b c w : Nat) : a + w * (b + w * c) = (c * w + b) * w + a := by
  rw [Nat.mul_comm (c * w + b) w, Nat.mul_comm c w, Nat.add_comm (w * c) b, Nat.add_comm _ a]
theorem turn2 (a b w : Nat) : a + w * b = b * w + a := by rw [Nat.mul_comm b w, Nat.add_comm _ a]
theorem three (U j : Nat) (h : U < W ^ (j + 3)) : U / W ^ j = (dgt W U (j + 2) * W + dgt W U (j + 1)) * W + dgt W U j := by
  have e1 := div_eq_dgt W0 U j
  have e2 := div_eq_dgt W0 U (j + 1)
  have e3 := div_eq_dgt W0 U (j + 2)
  have e4 : U / W ^ (j + 2 + 1) = 0 := Nat.div_eq_of_lt h
  rw [e4, Nat.mul_zero] at e3
  have e5 : U / W ^ (j + 1 + 1) = dgt W U (j + 2) := e3.trans (Nat.add_zero _)
  rw [e5] at e2
  rw [e2] at e1
  rw [e1]
  exact turn3 _ _ _ _
theorem two_w (v j : Nat) (h : v < W ^ (j + 2)) : v / W ^ j = dgt W v (j + 1) * W + dgt W v j := by
  have e1 := div_eq_dgt W0 v j
  have e2 := div_eq_dgt W0 v (j + 1)
  have e4 : v / W ^ (j + 1 + 1) = 0 := Nat.div_eq_of_lt h
  rw [e4, Nat.mul_zero] at e2
  rw [e2.trans (Nat.add_zero _)] at e1
  rw [e1]
  exact turn2 _ _ _
theorem top_w (v j : Nat) (h : v < W ^ (j + 1)) : v / W ^ j = dgt W v j := by
  have e := div_eq_dgt W0 v j
  rw [Nat.div_eq_of_lt h, Nat.mul_zero] at e
  exact e.trans (Nat.add_zero _)
/-- The guess is the digit, or one more. -/
theorem guess_ok {U v k m : Nat} (hv : v < W ^ (m + 2)) (hn : W ^ (m + 2) ≤ 2 * v) (hU : U < W * (W ^ k * v)) :
    guessN (dgt W U (k + m + 2)) (dgt W U (k + m + 1)) (dgt W U (k + m)) (dgt W v (m + 1)) (dgt W v m) < W ∧
    (U / (W ^ k * v) = guessN (dgt W U (k + m + 2)) (dgt W U (k + m + 1)) (dgt W U (k + m)) (dgt W v (m + 1)) (dgt W v m) ∨
     U / (W ^ k * v) + 1 = guessN (dgt W U (k + m + 2)) (dgt W U (k + m + 1)) (dgt W U (k + m)) (dgt W v (m + 1)) (dgt W v m)) := by
  have hp := Nat.pow_pos (n := m) W0
  have hpk := Nat.pow_pos (n := k) W0
  have hw := W2
  have hv0 : W ^ (m + 1) ≤ v := by
    have : W ^ (m + 2) = W ^ (m + 1) * W := Nat.pow_succ ..
    have h2 : W ^ (m + 1) * 2 ≤ W ^ (m + 1) * W := Nat.mul_le_mul_left _ hw
    omega
  have hv1 : W ^ m ≤ v := Nat.le_trans (Nat.pow_le_pow_right W0 (by omega)) hv0
  have hvp : 0 < v := Nat.lt_of_lt_of_le hp hv1
  have hV : 0 < W ^ k * v := Nat.mul_pos hpk hvp
  have hUW : U < W ^ (k + m + 3) := by
    refine Nat.lt_trans hU ?_
    have : W ^ (k + m + 3) = W * (W ^ k * W ^ (m + 2)) := by
      rw [← Nat.pow_add, ← Nat.pow_succ', show (k + (m + 2)).succ = k + m + 3 by omega]
    rw [this]
    exact (Nat.mul_lt_mul_left W0).2 ((Nat.mul_lt_mul_left hpk).2 hv)
  obtain ⟨q, hq⟩ : ∃ q, q = U / (W ^ k * v) := ⟨_, rfl⟩
  have hqle : q * (W ^ k * v) ≤ U := by rw [hq]; exact Nat.div_mul_le_self _ _
  have hqlt : U < (q + 1) * (W ^ k * v) := by
    rw [hq]
    have := Nat.lt_mul_div_succ U hV
    rwa [Nat.mul_comm] at this
  have hqW : q < W := by
    rw [hq, Nat.div_lt_iff_lt_mul hV]; exact hU
  rw [← hq]
  -- one bound suffices
  have main : ∀ g, g ≤ W → q ≤ g → g * (W ^ k * v) ≤ U + W ^ k * v → q = g ∨ q + 1 = g := fun g _ h1 h2 => by
    have h3 : g * (W ^ k * v) < (q + 2) * (W ^ k * v) := by
      have : (q + 2) * (W ^ k * v) = (q + 1) * (W ^ k * v) + W ^ k * v := by rw [← Nat.succ_mul]
      omega
    have := Nat.lt_of_mul_lt_mul_right h3
    omega
  unfold guessN
  by_cases hc : dgt W v (m + 1) ≤ dgt W U (k + m + 2)
  · rw [if_pos hc]
    refine ⟨by omega, main _ (by omega) (by omega) ?_⟩
    have hx : dgt W v (m + 1) = v / W ^ (m + 1) := (top_w v (m + 1) hv).symm
    have hy : dgt W U (k + m + 2) = U / W ^ (k + (m + 1) + 1) := (top_w U (k + m + 2) hUW).symm
    have hn2 : W ≤ 2 * dgt W v (m + 1) := by
      rw [hx]
      have h1 := Nat.lt_mul_div_succ v (Nat.pow_pos (n := m + 1) W0)
      have h2 : W ^ (m + 2) = W ^ (m + 1) * W := Nat.pow_succ ..
      have h3 : W ^ (m + 1) * W < W ^ (m + 1) * (2 * (v / W ^ (m + 1) + 1)) := by
        rw [← h2, Nat.mul_left_comm]; omega
      have h4 := Nat.lt_of_mul_lt_mul_left h3
      have h5 : W % 2 = 0 := by rw [W_eq]
      omega
    have ht := est_top (U := U) (v := v) (k := k) (n := m + 1) hx hy hc hn2
    have : (W - 1) * (W ^ k * v) = (W - 2) * (W ^ k * v) + W ^ k * v := by
      rw [← Nat.succ_mul]; congr 1; omega
    omega
  · rw [if_neg hc]
    have e1 := three U (k + m) hUW
    have e2 := two_w v m hv
    rw [← e1, ← e2]
    have hV2 : 0 < v / W ^ m := Nat.div_pos hv1 hp
    have h1 := est_hi (q := q) (k := k) hv1 hqle
    have hgle : U / W ^ (k + m) / (v / W ^ m) * (v / W ^ m) ≤ U / W ^ (k + m) := Nat.div_mul_le_self _ _
    have hgW : U / W ^ (k + m) / (v / W ^ m) < W := by
      rw [Nat.div_lt_iff_lt_mul hV2, e1, e2]
      have hu1 := dgt_lt W0 U (k + m + 1)
      have hu0 := dgt_lt W0 U (k + m)
      have h2 : dgt W U (k + m + 2) + 1 ≤ dgt W v (m + 1) := by omega
      have h3 : (dgt W U (k + m + 2) + 1) * W * W ≤ dgt W v (m + 1) * W * W := Nat.mul_le_mul_right _ (Nat.mul_le_mul_right _ h2)
      have h4 : dgt W U (k + m + 1) * W + W ≤ W * W := by
        have := Nat.mul_le_mul_right W (show dgt W U (k + m + 1) + 1 ≤ W from hu1)
        rwa [Nat.add_mul, Nat.one_mul] at this
      rw [Nat.add_mul, Nat.add_mul, Nat.one_mul] at h3
      rw [Nat.add_mul, Nat.mul_add, Nat.mul_comm W (dgt W v (m + 1) * W)]
      have := Nat.zero_le (W * dgt W v m)
      omega
    exact ⟨hgW, main _ (by omega) h1 (est_lo hv0 (by omega) hgle)⟩
end Nt
set_option linter.unusedSimpArgs false
set_option linter.unusedVariables false
namespace Nt
/-- A multiple is being taken away: the words up to i are done. -/
def subI (U v q k i Z c b : Nat) : Prop := Z + W ^ k * (q * (v % W ^ i)) = U + W ^ (k + i) * (b + c)
theorem subI_first (U v q k : Nat) : subI U v q k 0 U 0 0 := by
  unfold subI; rw [Nat.pow_zero, Nat.mod_one, Nat.mul_zero, Nat.mul_zero, Nat.add_zero, Nat.mul_zero, Nat.add_zero]
theorem subI_step {U v q k i Z c b s d b' : Nat} (h : subI U v q k i Z c b) (hs : s = q * dgt W v i + c) (hd : d + s % W + b = dgt W Z (k + i) + W * b') :
    subI U v q k (i + 1) (put W Z (k + i) d) (s / W) b' := by
  unfold subI at h ⊢
  have h1 := put_eq (b := W) Z (k + i) d W0
  have h2 := Nat.mod_add_div s W
  have h3 : W ^ k * (q * (v % W ^ (i + 1))) = W ^ k * (q * (v % W ^ i)) + W ^ (k + i) * (q * dgt W v i) := by
    rw [mod_succ, Nat.mul_add, Nat.mul_add, Nat.pow_add]
    congr 1
    rw [Nat.mul_left_comm q, Nat.mul_assoc]
  have h4 : W ^ (k + (i + 1)) * (b' + s / W) = W ^ (k + i) * (W * b') + W ^ (k + i) * (W * (s / W)) := by
    rw [← Nat.add_assoc, Nat.pow_succ, Nat.mul_assoc, Nat.mul_add, Nat.mul_add]
  have h5 : W ^ (k + i) * d + W ^ (k + i) * (s % W) + W ^ (k + i) * b = W ^ (k + i) * dgt W Z (k + i) + W ^ (k + i) * (W * b') := by
    rw [← Nat.mul_add, ← Nat.mul_add, ← Nat.mul_add, hd]
  have h6 : W ^ (k + i) * (s % W) + W ^ (k + i) * (W * (s / W)) = W ^ (k + i) * (q * dgt W v i) + W ^ (k + i) * c := by
    rw [← Nat.mul_add, ← Nat.mul_add, h2, hs]
  rw [Nat.mul_add] at h
  rw [h3, h4]
  omega
theorem subI_last {U v q k n Z b : Nat} (h : subI U v q k (n + 1) Z 0 b) (hv : v < W ^ n) : Z + W ^ k * (q * v) = U + W ^ (k + n + 1) * b := by
  unfold subI at h
  rw [Nat.mod_eq_of_lt (Nat.lt_trans hv (Nat.pow_lt_pow_right W2 (by omega)))] at h
  exact h
/-- The divisor is being added back. -/
def addI (U v k i Z c : Nat) : Prop := Z + W ^ (k + i) * c = U + W ^ k * (v % W ^ i)
theorem addI_first (U v k : Nat) : addI U v k 0 U 0 := by
  unfold addI; rw [Nat.pow_zero, Nat.mod_one, Nat.mul_zero, Nat.mul_zero]
theorem addI_step {U v k i Z c d c' : Nat} (h : addI U v k i Z c) (hd : d + W * c' = dgt W Z (k + i) + dgt W v i + c) :
    addI U v k (i + 1) (put W Z (k + i) d) c' := by
  unfold addI at h ⊢
  have h1 := put_eq (b := W) Z (k + i) d W0
  have h3 : W ^ k * (v % W ^ (i + 1)) = W ^ k * (v % W ^ i) + W ^ (k + i) * dgt W v i := by
    rw [mod_succ, Nat.mul_add, Nat.pow_add, Nat.mul_assoc]
  have h4 : W ^ (k + (i + 1)) * c' = W ^ (k + i) * (W * c') := by rw [← Nat.add_assoc, Nat.pow_succ, Nat.mul_assoc]
  have h5 : W ^ (k + i) * d + W ^ (k + i) * (W * c') = W ^ (k + i) * dgt W Z (k + i) + W ^ (k + i) * dgt W v i + W ^ (k + i) * c := by
    rw [← Nat.mul_add, ← Nat.mul_add, ← Nat.mul_add, hd]
  rw [h3, h4]
  omega
theorem addI_last {U v k n Z c : Nat} (h : addI U v k (n + 1) Z c) (hv : v < W ^ n) : Z + W ^ (k + n + 1) * c = U + W ^ k * v := by
  unfold addI at h
  rw [Nat.mod_eq_of_lt (Nat.lt_trans hv (Nat.pow_lt_pow_right W2 (by omega)))] at h
  exact h
/-- What stands behind a digit's step: no borrow. -/
theorem step_fine {U v q k n Z g : Nat} (hg : q = g ∨ q + 1 = g) (hq : q = U / (W ^ k * v)) (hv : 0 < v) (h : Z + W ^ k * (g * v) = U) : q = g ∧ Z = U % (W ^ k * v) := by
  have hV : 0 < W ^ k * v := Nat.mul_pos (Nat.pow_pos W0) hv
  have h1 := Nat.mod_add_div U (W ^ k * v)
  have h2 := Nat.mod_lt U hV
  rw [← hq] at h1
  rw [Nat.mul_left_comm] at h
  rcases hg with rfl | hg
  · refine ⟨rfl, ?_⟩
    rw [Nat.mul_comm (W ^ k * v)] at h1; omega
  · rw [← hg, Nat.add_mul] at h
    rw [Nat.mul_comm (W ^ k * v)] at h1; omega
/-- .. a borrow, and the divisor added back. -/
theorem step_back {U v q k n Z Z' g c : Nat} (hg : q = g ∨ q + 1 = g) (hq : q = U / (W ^ k * v)) (hv0 : 0 < v) (hv : v < W ^ n) (hU : U < W ^ (k + n + 1)) (hZ : Z < W ^ (k + n + 1)) (hZ' : Z' < W ^ (k + n + 1)) (hc : c ≤ 1)
    (h : Z + W ^ k * (g * v) = U + W ^ (k + n + 1)) (hb : Z' + W ^ (k + n + 1) * c = Z + W ^ k * v) : q + 1 = g ∧ Z' = U % (W ^ k * v) := by
  have hV : 0 < W ^ k * v := Nat.mul_pos (Nat.pow_pos W0) hv0
  have h1 := Nat.mod_add_div U (W ^ k * v)
  have h2 := Nat.mod_lt U hV
  rw [← hq] at h1
  rw [Nat.mul_left_comm] at h
  have h3 : W ^ k * v < W ^ (k + n + 1) := by
    rw [Nat.add_assoc, Nat.pow_add]
    exact (Nat.mul_lt_mul_left (Nat.pow_pos W0)).2 (Nat.lt_trans hv (Nat.pow_lt_pow_right W2 (by omega)))
  rw [Nat.mul_comm (W ^ k * v)] at h1
  rcases hg with rfl | hg
  · omega
  · refine ⟨hg, ?_⟩
    rw [← hg, Nat.add_mul, Nat.one_mul] at h
    generalize W ^ (k + n + 1) = M at *
    generalize W ^ k * v = V at *
    generalize q * V = S at *
    have : c = 0 ∨ c = 1 := by omega
    rcases this with rfl | rfl
    · omega
    · omega
/-- The whole so far: the words above k are done. -/
def divI (A v Q U k : Nat) : Prop := A = U + v * (W ^ k * Q) ∧ U < W ^ k * v
theorem divI_step {A v Q U k q : Nat} (h : divI A v Q U (k + 1)) (hq : q = U / (W ^ k * v)) (hv : 0 < v) : divI A v (q + W * Q) (U % (W ^ k * v)) k := by
  have hV : 0 < W ^ k * v := Nat.mul_pos (Nat.pow_pos W0) hv
  have h1 := Nat.mod_add_div U (W ^ k * v)
  refine ⟨?_, Nat.mod_lt _ hV⟩
  rw [← hq] at h1
  obtain ⟨h2, _⟩ := h
  have h3 : v * (W ^ k * (q + W * Q)) = W ^ k * v * q + v * (W ^ (k + 1) * Q) := by
    rw [Nat.mul_add, Nat.mul_add, Nat.pow_succ, Nat.mul_assoc (W ^ k) W, Nat.mul_left_comm v, Nat.mul_assoc (W ^ k) v]
  rw [h3]; omega
theorem divI_lt {A v Q U k : Nat} (h : divI A v Q U (k + 1)) : U < W * (W ^ k * v) := by
  have := h.2
  rwa [Nat.pow_succ, Nat.mul_comm (W ^ k) W, Nat.mul_assoc] at this
theorem divI_end {a b A v Q U by_ : Nat} (h : divI A v Q U 0) (hA : A = a * 2 ^ by_) (hv : v = b * 2 ^ by_) (hb : 0 < b) : Q = a / b ∧ U / 2 ^ by_ = a % b := by
  obtain ⟨h1, h2⟩ := h
  rw [Nat.pow_zero, Nat.one_mul] at h1 h2
  have hp := Nat.two_pow_pos by_
  generalize 2 ^ by_ = p at *
  subst hA hv
  have hU : U / p < b := by rw [Nat.div_lt_iff_lt_mul hp]; exact h2
  have e1 : U = p * (U / p) := by
    have h3 := Nat.mod_add_div U p
    have h4 : U % p = 0 := by
      have h5 : (U + b * p * Q) % p = 0 := by rw [← h1]; exact Nat.mul_mod_left _ _
      rw [Nat.mul_right_comm, Nat.add_mul_mod_self_right] at h5
      exact h5
    omega
  have e2 : a = U / p + b * Q := by
    refine Nat.eq_of_mul_eq_mul_right hp ?_
    rw [h1, Nat.add_mul, Nat.mul_right_comm b Q p]
    congr 1
    rw [Nat.mul_comm]; exact e1
  have e3 : a / b = Q := by
    rw [e2, Nat.add_mul_div_left _ _ hb, Nat.div_eq_of_lt hU, Nat.zero_add]
  refine ⟨e3.symm, ?_⟩
  rw [e2, Nat.add_mul_mod_self_left, Nat.mod_eq_of_lt hU]
/-- The guess's loop. -/
def gueI (u2 u1 u0 v1 v0 q r : Nat) : Prop := q * v1 + r = u2 * W + u1 ∧ ((u2 * W + u1) * W + u0) / (v1 * W + v0) ≤ q ∧ q < W
theorem gue_first {u2 u1 u0 v1 v0 : Nat} (h : u2 < v1) (h1 : u1 < W) (h0 : u0 < W) : gueI u2 u1 u0 v1 v0 ((u2 * W + u1) / v1) ((u2 * W + u1) % v1) := by
  have hv : 0 < v1 := by omega
  have e1 := Nat.mod_add_div (u2 * W + u1) v1
  have hV : 0 < v1 * W + v0 := by have := Nat.mul_pos hv W0; omega
  refine ⟨by rw [Nat.mul_comm]; omega, ?_, ?_⟩
  · rw [← Nat.lt_succ_iff, Nat.div_lt_iff_lt_mul hV]
    have h2 := Nat.lt_mul_div_succ (u2 * W + u1) hv
    have h3 : (u2 * W + u1 + 1) * W ≤ v1 * ((u2 * W + u1) / v1 + 1) * W := Nat.mul_le_mul_right _ h2
    rw [Nat.add_mul, Nat.one_mul] at h3
    have h4 : ((u2 * W + u1) / v1).succ * (v1 * W + v0) = v1 * ((u2 * W + u1) / v1 + 1) * W + ((u2 * W + u1) / v1 + 1) * v0 := by
      rw [Nat.mul_add, ← Nat.mul_assoc, Nat.mul_comm v1]
    rw [h4]
    omega
  · rw [Nat.div_lt_iff_lt_mul hv]
    have h2 : (u2 + 1) * W ≤ v1 * W := Nat.mul_le_mul_right _ h
    rw [Nat.add_mul, Nat.one_mul] at h2
    rw [Nat.mul_comm W]; omega
theorem gue_done {u2 u1 u0 v1 v0 q r : Nat} (h : gueI u2 u1 u0 v1 v0 q r) (hv : 0 < v1) (ht : q * v0 ≤ r * W + u0) : q = ((u2 * W + u1) * W + u0) / (v1 * W + v0) := by
  obtain ⟨h1, h2, _⟩ := h
  have hV : 0 < v1 * W + v0 := by have := Nat.mul_pos hv W0; omega
  refine Nat.le_antisymm ?_ h2
  rw [Nat.le_div_iff_mul_le hV, ← h1]
  have : q * (v1 * W + v0) = q * v1 * W + q * v0 := by rw [Nat.mul_add, Nat.mul_assoc]
  rw [this, Nat.add_mul]; omega
theorem gue_next {u2 u1 u0 v1 v0 q r : Nat} (h : gueI u2 u1 u0 v1 v0 q r) (hv : 0 < v1) (ht : r * W + u0 < q * v0) : 0 < q ∧ gueI u2 u1 u0 v1 v0 (q - 1) (r + v1) := by
  obtain ⟨h1, h2, h3⟩ := h
  have hq : 0 < q := by
    rcases Nat.eq_zero_or_pos q with c | c
    · rw [c, Nat.zero_mul] at ht; omega
    · exact c
  have hV : 0 < v1 * W + v0 := by have := Nat.mul_pos hv W0; omega
  obtain ⟨x, rfl⟩ : ∃ x, q = x + 1 := ⟨q - 1, by omega⟩
  refine ⟨hq, ?_, ?_, ?_⟩
  · rw [Nat.add_sub_cancel]; rw [Nat.add_mul, Nat.one_mul] at h1; omega
  · rw [Nat.add_sub_cancel, ← Nat.lt_succ_iff, Nat.div_lt_iff_lt_mul hV, ← h1]
    have : x.succ * (v1 * W + v0) = (x + 1) * v1 * W + (x + 1) * v0 := by rw [Nat.mul_add, Nat.mul_assoc]
    rw [this, Nat.add_mul ((x + 1) * v1)]; omega
  · omega
theorem gue_full {u0 v0 q r : Nat} (hq : q < W) (hv : v0 < W) (hr : W ≤ r) : q * v0 ≤ r * W + u0 := by
  have h1 : q * v0 ≤ W * W := Nat.mul_le_mul (by omega) (by omega)
  have h2 : W * W ≤ r * W := Nat.mul_le_mul_right _ hr
  omega
/-- The product's two words tell the test. -/
theorem two_words {p r u0 : Nat} (hu : u0 < W) : p ≤ r * W + u0 ↔ p / W < r ∨ (p / W = r ∧ p % W ≤ u0) := by
  have h := Nat.mod_add_div p W
  have h2 := Nat.mod_lt p W0
  constructor
  · intro h1
    rcases Nat.lt_trichotomy (p / W) r with c | c | c
    · exact Or.inl c
    · refine Or.inr ⟨c, ?_⟩
      rw [c, Nat.mul_comm W] at h; omega
    · have h3 : W * (r + 1) ≤ W * (p / W) := Nat.mul_le_mul_left _ c
      rw [Nat.mul_add, Nat.mul_comm W r] at h3; omega
  · rintro (c | ⟨c, d⟩)
    · have h3 : W * (p / W + 1) ≤ W * r := Nat.mul_le_mul_left _ c
      rw [Nat.mul_add, Nat.mul_comm W r] at h3; omega
    · rw [c, Nat.mul_comm W] at h; omega
/-- The divisor with its highest bit set. -/
theorem normed {b n s : Nat} (hn : nd W b = n + 1) (hs : nd 2 (dgt W b n) + s = 64) : b * 2 ^ s < W ^ (n + 1) ∧ W ^ (n + 1) ≤ 2 * (b * 2 ^ s) := by
  have hb : b < W ^ (n + 1) := by rw [← hn]; exact lt_nd W2
  have h1 := Nat.mod_add_div b (W ^ n)
  rw [top_w b n hb] at h1
  have h2 := Nat.mod_lt b (Nat.pow_pos (n := n) W0)
  have ht0 : dgt W b n ≠ 0 := by
    have := dgt_top (b := W) (n := b) W2 (fun c => by rw [c, nd_zero] at hn; omega)
    rwa [hn, Nat.add_sub_cancel] at this
  generalize dgt W b n = t at *
  have h3 : t < 2 ^ nd 2 t := lt_nd (by omega)
  have hnz : nd 2 t ≠ 0 := fun c => ht0 ((nd_eq_zero (by omega)).1 c)
  have h4 : 2 ^ (nd 2 t - 1) ≤ t := (pow_le_iff (by omega) _ _).2 (by omega)
  have h5 : 2 ^ nd 2 t = 2 ^ (nd 2 t - 1) * 2 := by rw [← Nat.pow_succ]; congr 1; omega
  have hW : 2 ^ nd 2 t * 2 ^ s = W := by rw [← Nat.pow_add, hs, W_eq]
  have h6 : (t + 1) * 2 ^ s ≤ W := by rw [← hW]; exact Nat.mul_le_mul_right _ h3
  have h7 : W ≤ 2 * t * 2 ^ s := by rw [← hW]; exact Nat.mul_le_mul_right _ (by rw [h5]; omega)
  have hp := Nat.two_pow_pos s
  constructor
  · have h8 : b < W ^ n * (t + 1) := by rw [Nat.mul_add]; omega
    have h9 : b * 2 ^ s < W ^ n * (t + 1) * 2 ^ s := (Nat.mul_lt_mul_right hp).2 h8
    rw [Nat.mul_assoc] at h9
    refine Nat.lt_of_lt_of_le h9 ?_
    rw [Nat.pow_succ]
    exact Nat.mul_le_mul_left _ h6
  · rw [Nat.pow_succ]
    have h8 : W ^ n * t ≤ b := Nat.le_trans (Nat.le_add_left _ _) (Nat.le_of_eq h1)
    have h9 : W ^ n * W ≤ W ^ n * (2 * t * 2 ^ s) := Nat.mul_le_mul_left _ h7
    refine Nat.le_trans h9 ?_
    have h10 : W ^ n * (2 * t * 2 ^ s) = 2 * (W ^ n * t * 2 ^ s) := by
      rw [Nat.mul_assoc 2, Nat.mul_left_comm, Nat.mul_assoc (W ^ n)]
    rw [h10]
    exact Nat.mul_le_mul_left _ (Nat.mul_le_mul_right _ h8)
end Nt
set_option linter.unusedSimpArgs false
set_option linter.unusedVariables false
namespace Go.Proofs.YtajcapliokblfaaGreatDoor
open Go Go.RowKit Nt
theorem addc64 (x y : Nat) : ∃ s c : Nat, (∀ w, (callFunc 173 #[.int .u64 (x : Nat), .int .u64 (y : Nat), .int .u64 0]).run Tryz.prog w = .ok (.value (.tuple #[.int .u64 (s : Nat), .int .u64 (c : Nat)])) w) ∧
    s = (x + y) % 18446744073709551616 ∧ c = (x + y) / 18446744073709551616 :=
  ⟨_, _, fun w => Tryz.bits_Add64 x y 0 (by omega) w, by rw [Nat.add_zero], by rw [Nat.add_zero]⟩
theorem mul_two (x y : Nat) (hx : x < 18446744073709551616) (hy : y < 18446744073709551616) : ∃ hi lo : Nat, (∀ w, Calls Tryz.prog 172 #[.int .u64 (x : Nat), .int .u64 (y : Nat)] w fun e w' => e = .returned (.tuple #[.int .u64 (hi : Nat), .int .u64 (lo : Nat)]) ∧ w = w') ∧
    hi = x * y / W ∧ lo = x * y % W := by
  refine ⟨x * y / 18446744073709551616, x * y % 18446744073709551616, fun w => ?_, by rw [W_eq], by rw [W_eq]⟩
  refine (Tryz.bits_Mul64 x y hx hy w).mono ?_
  rintro e w' ⟨rfl, rfl⟩; exact ⟨rfl, rfl⟩
theorem div_two (hi lo y : Nat) (hhy : hi < y) (hy : y < 18446744073709551616) (hlo : lo < 18446744073709551616) : ∃ q r : Nat, (∀ w, Calls Tryz.prog 182 #[.int .u64 (hi : Nat), .int .u64 (lo : Nat), .int .u64 (y : Nat)] w fun e w' => e = .returned (.tuple #[.int .u64 (q : Nat), .int .u64 (r : Nat)]) ∧ ∃ n, w' = w.drewN n) ∧
    q = (hi * W + lo) / y ∧ r = (hi * W + lo) % y :=
  ⟨_, _, fun w => Div64_c hi lo y w hhy hy hlo, by rw [W_eq], by rw [W_eq]⟩
set_option maxRecDepth 100000 in
theorem Digit_top (u2 u1 u0 v1 v0 : Nat) (w : World) (h : v1 ≤ u2) :
    Calls Tryz.prog 166 #[.int .u64 (u2 : Nat), .int .u64 (u1 : Nat), .int .u64 (u0 : Nat), .int .u64 (v1 : Nat), .int .u64 (v0 : Nat)] w fun e w' => e = .returned (.int .u64 (guessN u2 u1 u0 v1 v0 : Nat)) ∧ Drawn w w' := by
  have hg : ((guessN u2 u1 u0 v1 v0 : Nat) : Int) = 18446744073709551615 := by unfold guessN; rw [if_pos h, W_eq]; rfl
  have HG := Lib.hid hg
  have h2 : (v1 : Int) ≤ (u2 : Int) := by omega
  clear hg
  go_enter Tryz.func166, Tryz.ntmps166
  go_wp2_with fail
  go_ret
  exact ⟨by rw [HG.out]; rfl, Drawn.refl _⟩
set_option maxRecDepth 100000 in
set_option maxHeartbeats 1000000 in
theorem Digit_c (u2 u1 u0 v1 v0 : Nat) (w : World) (h : u2 < v1) (hv1 : v1 < 18446744073709551616) (hu1 : u1 < 18446744073709551616) (hu0 : u0 < 18446744073709551616) (hv0 : v0 < 18446744073709551616) :
    Calls Tryz.prog 166 #[.int .u64 (u2 : Nat), .int .u64 (u1 : Nat), .int .u64 (u0 : Nat), .int .u64 (v1 : Nat), .int .u64 (v0 : Nat)] w fun e w' => e = .returned (.int .u64 (guessN u2 u1 u0 v1 v0 : Nat)) ∧ Drawn w w' := by
  have hg : guessN u2 u1 u0 v1 v0 = ((u2 * W + u1) * W + u0) / (v1 * W + v0) := by unfold guessN; rw [if_neg (by omega)]
  obtain ⟨q0, r0, hdiv, hq0, hr0⟩ := div_two u2 u1 v1 h hv1 hu1
  have hw := W_eq
  have hfirst := gue_first (u2 := u2) (u1 := u1) (u0 := u0) (v1 := v1) (v0 := v0) h (by omega) (by omega)
  rw [← hq0, ← hr0] at hfirst
  have hr0v : r0 < v1 := by rw [hr0]; exact Nat.mod_lt _ (by omega)
  have HG := Lib.hid hg
  have KD := Lib.hid hdiv
  have HF := Lib.hid hfirst
  have HR0 := Lib.hid (show r0 < 18446744073709551616 by omega)
  have HV1 := Lib.hid hv1
  have HV1P := Lib.hid (show 0 < v1 by omega)
  have HV0 := Lib.hid hv0
  have HU0 := Lib.hid hu0
  have h2 : ¬ (v1 : Int) ≤ (u2 : Int) := by omega
  clear hg hdiv hq0 hr0 hw hfirst hr0v hv1 hu1 hu0 hv0 h
  go_enter Tryz.func166, Tryz.ntmps166
  go_wp2_with fail
  refine (KD.out _).mono ?_
  rintro e w1 ⟨rfl, nn, rfl⟩
  have hdr : Drawn w (w.drewN nn) := ⟨nn, rfl⟩
  generalize w.drewN nn = w1 at *
  have HDR := Lib.hid hdr
  clear hdr
  go_wp2_with fail
  go_loopw [11, 12] (fun x y wr => ∃ q r : Nat, x = .int .u64 q ∧ y = .int .u64 r ∧ Hid (gueI u2 u1 u0 v1 v0 q r) ∧ Hid (r < 18446744073709551616) ∧ w1 = wr) (fun x _ _ => (intOf x).toNat)
  case atStart => exact ⟨q0, r0, rfl, rfl, HF, HR0, rfl⟩
  case round =>
    obtain ⟨q, r, rfl, rfl, hgu, hr, rfl⟩ := hrel
    have hqW : q < 18446744073709551616 := by have := hgu.out.2.2; have := W_eq; omega
    obtain ⟨hi, lo, hmul, hhi, hlo⟩ := mul_two q v0 hqW HV0.out
    have KM := Lib.hid hmul
    have htw := two_words (p := q * v0) (r := r) (u0 := u0) (by have := HU0.out; have := W_eq; omega)
    rw [← hhi, ← hlo] at htw
    by_cases ht : q * v0 ≤ r * W + u0
    · have hq := gue_done hgu.out HV1P.out ht
      have HQ := Lib.hid (HG.out.trans hq.symm)
      have hc := htw.1 ht
      have hc2 : hi < r ∨ (¬ hi < r ∧ hi = r ∧ lo ≤ u0) := by
        rcases hc with c | ⟨c, d⟩
        · exact Or.inl c
        · exact Or.inr ⟨by omega, c, d⟩
      clear hmul htw ht hq hc hhi hlo hqW
      rcases hc2 with c | ⟨c1, rfl, c3⟩
      all_goals
        go_wp2_with fail
        refine (KM.out _).mono ?_
        rintro e w2 ⟨rfl, rfl⟩
        go_wp2_with fail
        go_ret
        exact ⟨by rw [HQ.out]; rfl, HDR.out⟩
    · obtain ⟨hq0, hnext⟩ := gue_next hgu.out HV1P.out (by omega)
      have hc2 : ¬ hi < r ∧ (¬ hi = r ∨ (hi = r ∧ ¬ lo ≤ u0)) := by
        refine ⟨fun c => ht (htw.2 (Or.inl c)), ?_⟩
        by_cases c : hi = r
        · exact Or.inr ⟨c, fun d => ht (htw.2 (Or.inr ⟨c, d⟩))⟩
        · exact Or.inl c
      obtain ⟨s, c, hadd, hs, hcc⟩ := addc64 r v1
      obtain ⟨x, rfl⟩ : ∃ x, q = x + 1 := ⟨q - 1, by omega⟩
      rw [Nat.add_sub_cancel] at hnext
      have hwx : IntKind.u64.wrap ((x : Int) + 1 - 1) = (x : Int) := by rw [IntKind.wrap_u64]; omega
      have hwx2 : IntKind.u64.wrap (x : Int) = (x : Int) := by rw [IntKind.wrap_u64]; omega
      have hrr := hr.out
      have hvv := HV1.out
      obtain ⟨hnr, hc3⟩ := hc2
      have HN := Lib.hid hnext
      by_cases hcz : c = 0
      · have hsv : s = r + v1 := by omega
        have HS := Lib.hid hsv
        have HSB : Hid (s < 18446744073709551616) := Lib.hid (by omega)
        subst hcz
        clear hmul htw ht hhi hlo hs hcc hrr hvv hqW hnext hq0 hsv
        rcases hc3 with c1 | ⟨rfl, c2⟩
        case' inl =>
          have c1' : ((hi : Int) == (r : Int)) = false := by rw [beq_eq_false_iff_ne]; omega
        all_goals
          go_wp2_with fail
          refine (KM.out _).mono ?_
          rintro e w2 ⟨rfl, rfl⟩
          go_wp2_with (first | simp only [hadd])
          go_roundw
          case rel => exact ⟨x, s, rfl, rfl, by rw [HS.out]; exact HN, HSB, trivial⟩
          case measure => simp [intOf]; try omega
      · have hfull := gue_full (u0 := u0) (q := x) (v0 := v0) (r := r + v1) (by have := W_eq; omega) (by have := W_eq; have := HV0.out; omega) (by have := W_eq; omega)
        have hq := gue_done hnext HV1P.out hfull
        have HQ := Lib.hid (HG.out.trans hq.symm)
        have hcn : (((c : Nat) : Int) != 0) = true := by rw [bne_iff_ne]; omega
        have HC := Lib.hid hcz
        clear hmul htw ht hhi hlo hs hcc hrr hvv hqW hnext hq0 hfull hq hcz
        rcases hc3 with c1 | ⟨rfl, c2⟩
        case' inl =>
          have c1' : ((hi : Int) == (r : Int)) = false := by rw [beq_eq_false_iff_ne]; omega
        all_goals
          go_wp2_with fail
          refine (KM.out _).mono ?_
          rintro e w2 ⟨rfl, rfl⟩
          go_wp2_with (first | simp only [hadd])
          go_ret
          exact ⟨by rw [HQ.out]; rfl, HDR.out⟩
theorem Digit_all (u2 u1 u0 v1 v0 : Nat) (w : World) (hv1 : v1 < 18446744073709551616) (hu1 : u1 < 18446744073709551616) (hu0 : u0 < 18446744073709551616) (hv0 : v0 < 18446744073709551616) :
    Calls Tryz.prog 166 #[.int .u64 (u2 : Nat), .int .u64 (u1 : Nat), .int .u64 (u0 : Nat), .int .u64 (v1 : Nat), .int .u64 (v0 : Nat)] w fun e w' => e = .returned (.int .u64 (guessN u2 u1 u0 v1 v0 : Nat)) ∧ Drawn w w' := by
  by_cases h : v1 ≤ u2
  · exact Digit_top u2 u1 u0 v1 v0 w h
  · exact Digit_c u2 u1 u0 v1 v0 w (by omega) hv1 hu1 hu0 hv0
end Go.Proofs.YtajcapliokblfaaGreatDoor
set_option linter.unusedSimpArgs false
set_option linter.unusedVariables false
namespace Go.Proofs.YtajcapliokblfaaGreatDoor
open Go Go.RowKit Nt
/-- One word of a multiple taken away. -/
theorem less_words (q y c x b : Nat) (hq : q < 18446744073709551616) (hy : y < 18446744073709551616) (hc : c < 18446744073709551616) (hx : x < 18446744073709551616) (hb : b ≤ 1) : ∃ hi lo lo2 c1 cy d b2 : Nat,
    (∀ w, Calls Tryz.prog 172 #[.int .u64 (q : Nat), .int .u64 (y : Nat)] w fun e w' => e = .returned (.tuple #[.int .u64 (hi : Nat), .int .u64 (lo : Nat)]) ∧ w = w') ∧
    (∀ w, (callFunc 173 #[.int .u64 (lo : Nat), .int .u64 (c : Nat), .int .u64 0]).run Tryz.prog w = .ok (.value (.tuple #[.int .u64 (lo2 : Nat), .int .u64 (c1 : Nat)])) w) ∧
    IntKind.u64.wrap ((hi : Int) + (c1 : Int)) = (cy : Int) ∧
    (∀ w, (callFunc 174 #[.int .u64 (x : Nat), .int .u64 (lo2 : Nat), .int .u64 (b : Nat)]).run Tryz.prog w = .ok (.value (.tuple #[.int .u64 (d : Nat), .int .u64 (b2 : Nat)])) w) ∧
    d < 18446744073709551616 ∧ cy < 18446744073709551616 ∧ b2 ≤ 1 ∧ cy = (q * y + c) / W ∧ d + (q * y + c) % W + b = x + W * b2 := by
  have hp := prod_lt hq hy
  have h1 := Tryz.bits_Add64 (q * y % 18446744073709551616) c 0 (by omega)
  have hl := Nat.mod_lt (q * y % 18446744073709551616 + c + 0) (show 0 < 18446744073709551616 by omega)
  have h2 := Tryz.bits_Sub64 x ((q * y % 18446744073709551616 + c + 0) % 18446744073709551616) b hb
  refine ⟨q * y / 18446744073709551616, q * y % 18446744073709551616, (q * y % 18446744073709551616 + c + 0) % 18446744073709551616, (q * y % 18446744073709551616 + c + 0) / 18446744073709551616,
    q * y / 18446744073709551616 + (q * y % 18446744073709551616 + c + 0) / 18446744073709551616, _, _, ?_, h1, ?_, h2, ?_, ?_, ?_, ?_, ?_⟩
  · intro w
    refine (Tryz.bits_Mul64 q y hq hy w).mono ?_
    rintro e w' ⟨rfl, rfl⟩; exact ⟨rfl, rfl⟩
  · refine wadd_nat rfl ?_
    generalize q * y = p at *; omega
  · exact Nat.mod_lt _ (by omega)
  · generalize q * y = p at *; omega
  · split <;> omega
  · rw [W_eq]; generalize q * y = p at *; omega
  · rw [W_eq]
    have e : (q * y % 18446744073709551616 + c + 0) % 18446744073709551616 = (q * y + c) % 18446744073709551616 := by generalize q * y = p at *; omega
    rw [e]
    have hm := Nat.mod_lt (q * y + c) (show 0 < 18446744073709551616 by omega)
    generalize (q * y + c) % 18446744073709551616 = m at *
    split <;> omega
/-- No other block is touched. -/
def Only (g : Nat) (w w' : World) : Prop := ∀ x, x ≠ g → w'.heap[x]? = w.heap[x]?
theorem Only.refl (g : Nat) (w : World) : Only g w w := fun _ _ => rfl
theorem Only.set {g i : Nat} {w w' : World} (h : Only g w w') (u : Value) : Only g w (w'.setCell ⟨g, i, none⟩ u) := fun x hx => (Below.heap_setCell w' ⟨g, i, none⟩ u x hx).trans (h x hx)
theorem Only.blk {g x : Nat} {T : TypeId} {cs : Array Value} {w w' : World} (h : Only g w w') (hx : x ≠ g) (hb : Blk w x T cs) : Blk w' x T cs := (h x hx).trans hb
/-- What taking a multiple away leaves. -/
def LessPost (g k n L U v q : Nat) (T : TypeId) (w : World) (e : Ending) (w' : World) : Prop :=
  ∃ (Z b : Nat) (bb : Bool), e = .returned (.bool bb) ∧ (bb = decide (b ≠ 0)) ∧ b ≤ 1 ∧ Blk w' g T (wcells Z L) ∧ Only g w w' ∧ Below g w w' ∧ Z < W ^ (k + n + 1) ∧ Z + W ^ k * (q * v) = U + W ^ (k + n + 1) * b
set_option maxRecDepth 100000 in
set_option maxHeartbeats 2000000 in
theorem Less_c (g k n L U v q cp cv : Nat) (Av : Option Addr) (w : World) (hb : Blk w g 66 (wcells U L)) (hL : k + n + 1 ≤ L) (hL2 : L ≤ 1000000000) (hv : Row w g Av v n) (hvn : v < W ^ n) (hq : q < 18446744073709551616) (hU : U < W ^ (k + n + 1)) (hcp : n + 1 ≤ cp) :
    Calls Tryz.prog 167 #[.slice (some ⟨g, k, none⟩) (n + 1) cp, .slice Av n cv, .int .u64 (q : Nat)] w (LessPost g k n L U v q 66 w) := by
  have HB := Lib.hid hb
  have HV := Lib.hid hv
  have HVN := Lib.hid hvn
  have HQ := Lib.hid hq
  have HU := Lib.hid hU
  have HL := Lib.hid hL
  have hn : n ≤ 1000000000 := by omega
  have HL2 := Lib.hid hL2
  have HCP := Lib.hid hcp
  clear hb hv hvn hq hU hL hL2 hcp
  go_enter Tryz.func167, Tryz.ntmps167
  go_wp2_with fail
  go_loopw [7, 8, 16] (fun c b i wr => ∃ (j Z cc bb : Nat), j ≤ n ∧ i = .int .i64 j ∧ c = .int .u64 cc ∧ b = .int .u64 bb ∧ Hid (cc < 18446744073709551616 ∧ bb ≤ 1) ∧ Hid (subI U v q k j Z cc bb) ∧ Hid (Z < W ^ (k + n + 1)) ∧ Hid (Blk wr g 66 (wcells Z L)) ∧ Hid (Only g w wr) ∧ Below g w wr) (fun _ _ i _ => n - (intOf i).toNat)
  case atStart => exact ⟨0, U, 0, 0, Nat.zero_le _, rfl, rfl, rfl, Lib.hid ⟨by omega, by omega⟩, Lib.hid (subI_first U v q k), HU, HB, Lib.hid (Only.refl _ _), Below.refl _ _⟩
  case round =>
    obtain ⟨j, Z, cc, bb, hj, rfl, rfl, rfl, hcb, hsub, hZ, hblk, hon, hbw⟩ := hrel
    by_cases hlt : j < n
    · obtain ⟨gv, rfl, hgv, hcv⟩ := HV.out.at_ hlt
      have hcv2 := (hbw.cell (p := ⟨gv, j, none⟩) hgv).trans hcv
      have hcz := hblk.out.cell (k + j)
      rw [wcells_get _ _ _ (by have := HL.out; omega)] at hcz
      have hfz := hblk.out.frozen (k + j)
      obtain ⟨hi, lo, lo2, c1, cy, d, b2, hmul, ha1, hw1, hs1, hd, hcy, hb2, hcye, hde⟩ := less_words q (dgt W v j) cc (dgt W Z (k + j)) bb HQ.out (wd_lt _ _) hcb.out.1 (wd_lt _ _) hcb.out.2
      have HN := Lib.hid (subI_step hsub.out rfl hde)
      rw [← hcye] at HN
      have HZ := Lib.hid (put_lt W2 (by rw [W_eq]; exact hd) hZ.out (show k + j < k + n + 1 by omega))
      have HB1 := hblk.out.set_ (k + j) (.int .u64 (d : Nat))
      rw [wcells_set _ _ _ _ hd] at HB1
      have HB2 := Lib.hid HB1
      have hb1 := hbw.setCell (p := ⟨g, k + j, none⟩) (Nat.le_refl _) (.int .u64 (d : Nat))
      have HON := Lib.hid (hon.out.set (i := k + j) (.int .u64 (d : Nat)))
      have KM := Lib.hid hmul
      have HCB : Hid (cy < 18446744073709551616 ∧ b2 ≤ 1) := Lib.hid ⟨hcy, hb2⟩
      have HD := Lib.hid hd
      generalize dgt W v j = y at *
      generalize dgt W Z (k + j) = x at *
      clear hmul hcv hcye hde HB1 hd hcy hb2
      go_wp2_with fail
      refine (KM.out _).mono ?_
      rintro e w2 ⟨rfl, rfl⟩
      go_wp2_with (first | simp only [ha1] | simp only [hs1])
      go_roundw
      case rel => exact ⟨j + 1, _, cy, b2, by omega, by go_num, rfl, rfl, HCB, HN, HZ, HB2, HON, hb1⟩
      case measure => simp [intOf]; omega
    · obtain rfl : j = n := by omega
      have hcz := hblk.out.cell (k + j)
      rw [wcells_get _ _ _ (by have := HL.out; omega)] at hcz
      have hfz := hblk.out.frozen (k + j)
      have hcb1 := hcb.out
      have hx := wd_lt Z (k + j)
      have h2 := Tryz.bits_Sub64 (dgt W Z (k + j)) cc bb hcb1.2
      obtain ⟨d, hd⟩ : ∃ d, d = (dgt W Z (k + j) + 18446744073709551616 - cc - bb) % 18446744073709551616 := ⟨_, rfl⟩
      obtain ⟨b2, hb2⟩ : ∃ b2, b2 = (if dgt W Z (k + j) < cc + bb then 1 else 0) := ⟨_, rfl⟩
      rw [← hd, ← hb2] at h2
      have hd1 : d < 18446744073709551616 := by rw [hd]; exact Nat.mod_lt _ (by omega)
      have hb1' : b2 ≤ 1 := by rw [hb2]; split <;> omega
      have hvz : dgt W v j = 0 := dgt_of_lt W2 HVN.out (Nat.le_refl _)
      have hcw : cc % W = cc := Nat.mod_eq_of_lt (by rw [W_eq]; exact hcb1.1)
      have hcd : cc / W = 0 := Nat.div_eq_of_lt (by rw [W_eq]; exact hcb1.1)
      have hde : d + (q * dgt W v j + cc) % W + bb = dgt W Z (k + j) + W * b2 := by
        rw [hvz, Nat.mul_zero, Nat.zero_add, hcw, hd, hb2]
        generalize dgt W Z (k + j) = x at *
        rw [W_eq]
        split <;> omega
      have hstep := subI_step hsub.out rfl hde
      rw [hvz, Nat.mul_zero, Nat.zero_add, hcd] at hstep
      have hlast := subI_last hstep HVN.out
      have HZ := Lib.hid (put_lt W2 (by rw [W_eq]; exact hd1) hZ.out (show k + j < k + j + 1 by omega))
      have HB1 := hblk.out.set_ (k + j) (.int .u64 (d : Nat))
      rw [wcells_set _ _ _ _ hd1] at HB1
      have HB2 := Lib.hid HB1
      have hb1 := hbw.setCell (p := ⟨g, k + j, none⟩) (Nat.le_refl _) (.int .u64 (d : Nat))
      have HON := Lib.hid (hon.out.set (i := k + j) (.int .u64 (d : Nat)))
      have HLAST := Lib.hid hlast
      have HB1L := Lib.hid hb1'
      have hjj : j < j + 1 := by omega
      generalize dgt W Z (k + j) = x at *
      clear hd hb2 hd1 hvz hcw hcd hde hstep hlast HB1 hx hcb1 hb1'
      by_cases hz : b2 = 0
      · have hbf : ((b2 : Int) != 0) = false := by subst hz; rfl
        have HZ2 := Lib.hid hz
        clear hz
        go_wp2_with (first | simp only [h2])
        go_ret
        exact ⟨_, b2, _, rfl, by rw [HZ2.out]; rfl, HB1L.out, HB2.out, HON.out, hb1, HZ.out, HLAST.out⟩
      · have hbf : ((b2 : Int) != 0) = true := by rw [bne_iff_ne]; omega
        have HZ2 := Lib.hid hz
        clear hz
        go_wp2_with (first | simp only [h2])
        go_ret
        exact ⟨_, b2, _, rfl, (decide_eq_true HZ2.out).symm, HB1L.out, HB2.out, HON.out, hb1, HZ.out, HLAST.out⟩
end Go.Proofs.YtajcapliokblfaaGreatDoor
set_option linter.unusedSimpArgs false
set_option linter.unusedVariables false
namespace Go.Proofs.YtajcapliokblfaaGreatDoor
open Go Go.RowKit Nt
/-- What adding the divisor back leaves. -/
def BackPost (g k n L U v : Nat) (T : TypeId) (w : World) (e : Ending) (w' : World) : Prop :=
  ∃ (Z c : Nat), e = .returned (.tuple #[]) ∧ c ≤ 1 ∧ Blk w' g T (wcells Z L) ∧ Only g w w' ∧ Below g w w' ∧ Z < W ^ (k + n + 1) ∧ Z + W ^ (k + n + 1) * c = U + W ^ k * v
theorem back_words (x y c : Nat) (hx : x < 18446744073709551616) (hy : y < 18446744073709551616) (hc : c ≤ 1) : ∃ d c2 : Nat,
    (∀ w, (callFunc 173 #[.int .u64 (x : Nat), .int .u64 (y : Nat), .int .u64 (c : Nat)]).run Tryz.prog w = .ok (.value (.tuple #[.int .u64 (d : Nat), .int .u64 (c2 : Nat)])) w) ∧
    d < 18446744073709551616 ∧ c2 ≤ 1 ∧ d + W * c2 = x + y + c :=
  ⟨_, _, fun w => Tryz.bits_Add64 x y c hc w, Nat.mod_lt _ (by omega), by omega, by rw [W_eq]; omega⟩
set_option maxRecDepth 100000 in
set_option maxHeartbeats 2000000 in
theorem Back_c (g k n L U v cp cv : Nat) (Av : Option Addr) (w : World) (hb : Blk w g 66 (wcells U L)) (hL : k + n + 1 ≤ L) (hL2 : L ≤ 1000000000) (hv : Row w g Av v n) (hvn : v < W ^ n) (hU : U < W ^ (k + n + 1)) (hcp : n + 1 ≤ cp) :
    Calls Tryz.prog 168 #[.slice (some ⟨g, k, none⟩) (n + 1) cp, .slice Av n cv] w (BackPost g k n L U v 66 w) := by
  have HB := Lib.hid hb
  have HV := Lib.hid hv
  have HVN := Lib.hid hvn
  have HU := Lib.hid hU
  have HL := Lib.hid hL
  have hn : n ≤ 1000000000 := by omega
  have HL2 := Lib.hid hL2
  have HCP := Lib.hid hcp
  clear hb hv hvn hU hL hL2 hcp
  go_enter Tryz.func168, Tryz.ntmps168
  go_wp2_with fail
  go_loopw [4, 9] (fun c i wr => ∃ (j Z cc : Nat), j ≤ n ∧ i = .int .i64 j ∧ c = .int .u64 cc ∧ Hid (cc ≤ 1) ∧ Hid (addI U v k j Z cc) ∧ Hid (Z < W ^ (k + n + 1)) ∧ Hid (Blk wr g 66 (wcells Z L)) ∧ Hid (Only g w wr) ∧ Below g w wr) (fun _ i _ => n - (intOf i).toNat)
  case atStart => exact ⟨0, U, 0, Nat.zero_le _, rfl, rfl, Lib.hid (by omega), Lib.hid (addI_first U v k), HU, HB, Lib.hid (Only.refl _ _), Below.refl _ _⟩
  case round =>
    obtain ⟨j, Z, cc, hj, rfl, rfl, hcb, hadd, hZ, hblk, hon, hbw⟩ := hrel
    by_cases hlt : j < n
    · obtain ⟨gv, rfl, hgv, hcv⟩ := HV.out.at_ hlt
      have hcv2 := (hbw.cell (p := ⟨gv, j, none⟩) hgv).trans hcv
      have hcz := hblk.out.cell (k + j)
      rw [wcells_get _ _ _ (by have := HL.out; omega)] at hcz
      have hfz := hblk.out.frozen (k + j)
      obtain ⟨d, c2, ha1, hd, hc2, hde⟩ := back_words (dgt W Z (k + j)) (dgt W v j) cc (wd_lt _ _) (wd_lt _ _) hcb.out
      have HN := Lib.hid (addI_step hadd.out hde)
      have HZ := Lib.hid (put_lt W2 (by rw [W_eq]; exact hd) hZ.out (show k + j < k + n + 1 by omega))
      have HB1 := hblk.out.set_ (k + j) (.int .u64 (d : Nat))
      rw [wcells_set _ _ _ _ hd] at HB1
      have HB2 := Lib.hid HB1
      have hb1 := hbw.setCell (p := ⟨g, k + j, none⟩) (Nat.le_refl _) (.int .u64 (d : Nat))
      have HON := Lib.hid (hon.out.set (i := k + j) (.int .u64 (d : Nat)))
      have HC2 := Lib.hid hc2
      generalize dgt W v j = y at *
      generalize dgt W Z (k + j) = x at *
      clear hcv hde HB1 hd hc2
      go_wp2_with (first | simp only [ha1])
      go_roundw
      case rel => exact ⟨j + 1, _, c2, by omega, by go_num, rfl, HC2, HN, HZ, HB2, HON, hb1⟩
      case measure => simp [intOf]; omega
    · obtain rfl : j = n := by omega
      have hcz := hblk.out.cell (k + j)
      rw [wcells_get _ _ _ (by have := HL.out; omega)] at hcz
      have hfz := hblk.out.frozen (k + j)
      have hx := wd_lt Z (k + j)
      have hcb1 := hcb.out
      obtain ⟨d, hd⟩ : ∃ d, d = (dgt W Z (k + j) + cc) % 18446744073709551616 := ⟨_, rfl⟩
      obtain ⟨c2, hc2⟩ : ∃ c2, c2 = (dgt W Z (k + j) + cc) / 18446744073709551616 := ⟨_, rfl⟩
      have hd1 : d < 18446744073709551616 := by rw [hd]; exact Nat.mod_lt _ (by omega)
      have hvz : dgt W v j = 0 := dgt_of_lt W2 HVN.out (Nat.le_refl _)
      have hde : d + W * c2 = dgt W Z (k + j) + dgt W v j + cc := by
        rw [hvz, hd, hc2]
        generalize dgt W Z (k + j) = x at *
        rw [W_eq]; omega
      have hlast := addI_last (addI_step hadd.out hde) HVN.out
      have hw : IntKind.u64.wrap ((dgt W Z (k + j) : Nat) + (cc : Nat) : Int) = (d : Int) := by rw [IntKind.wrap_u64]; omega
      have HZ := Lib.hid (put_lt W2 (by rw [W_eq]; exact hd1) hZ.out (show k + j < k + j + 1 by omega))
      have HB1 := hblk.out.set_ (k + j) (.int .u64 (d : Nat))
      rw [wcells_set _ _ _ _ hd1] at HB1
      have HB2 := Lib.hid HB1
      have hb1 := hbw.setCell (p := ⟨g, k + j, none⟩) (Nat.le_refl _) (.int .u64 (d : Nat))
      have HON := Lib.hid (hon.out.set (i := k + j) (.int .u64 (d : Nat)))
      have HLAST := Lib.hid hlast
      have HC2 := Lib.hid (show c2 ≤ 1 by omega)
      have hjj : j < j + 1 := by omega
      generalize dgt W Z (k + j) = x at *
      clear hd hc2 hd1 hvz hde hlast HB1 hx hcb1
      go_wp2_with fail
      go_end0
      exact ⟨_, c2, rfl, HC2.out, HB2.out, HON.out, hb1, HZ.out, HLAST.out⟩
end Go.Proofs.YtajcapliokblfaaGreatDoor
set_option linter.unusedSimpArgs false
set_option linter.unusedVariables false
namespace Go.Proofs.YtajcapliokblfaaGreatDoor
open Go Go.RowKit Nt
@[irreducible] def KA : Nat := 9223372036854775808
@[irreducible] def KB : Nat := 10
theorem natS_one {n : Nat} (h0 : 1 ≤ n) (h : n < 256) : natS n = ⟨#[UInt8.ofNat n]⟩ := by
  have e : nd 256 n = 1 := nd_unique (b := 256) (k := 0) (by omega) (by simpa using h0) (by simpa using h)
  rw [natS_def, e]
  have : dl 256 n 1 = [n] := by
    unfold dl; simp [List.range_succ, dgt_def, Nat.mod_eq_of_lt h]
  rw [this]; rfl
def KL : List Nat := [0, 8, 0, 8, 5, 7, 7, 4, 5, 8, 6, 3, 0, 2, 7, 3, 3, 2, 2, 9]
end Go.Proofs.YtajcapliokblfaaGreatDoor
