/- Texts put together: N5 N6 N7 N8 N9 N11 N12 N13 N14 N15 N16 N17 N18 N19 N20 SyE N21 N22 N23 N24 N25 N26 N32 N33 N34 N37 D1 D2 D3 D4 D8 N38 D9 DM. -/
import Derived.Test.YtjalpocjgpgcfaaGreatDoorQ2
import Derived.RegionTactic
import Derived.LoopTactic
import Derived.Laws.Bits64b
import Derived.Lib.ConvBytes
import Derived.Deep.RegionHeld3
import Derived.Deep.RegionWith
import Derived.Deep.CutBlock
import Derived.Deep.DeepCutAuto
import Derived.Laws.AppendOwn
import Derived.Deep.LoopGhost
import Derived.Maps.AppendAt
set_option linter.unusedSimpArgs false
set_option linter.unusedVariables false
namespace Go.Proofs.YtjalpocjgpgcfaaGreatDoor
open Go Go.RowKit Nt

theorem ret_int {k : IntKind} {a b : Int} (h : a = b) : Ending.returned (.int k a) = .returned (.int k b) := by rw [h]
theorem Len_c (A : Option Addr) (c n B : Nat) (w : World) (hL : nd W n ≤ 1000000000) (hr : Row w B A n (nd W n)) :
    Calls Tryz.prog 76 #[.slice A (nd W n) c] w fun e w' => e = .returned (.int .i64 (nd 2 n : Nat)) ∧ w = w' := by
  by_cases h0 : n = 0
  · subst h0
    have h : nd W 0 = 0 := nd_zero _
    rw [h]
    go_enter Tryz.func76, Tryz.ntmps76
    go_wp2
    go_ret
    exact ⟨ret_int (by rw [nd_zero]; rfl), rfl⟩
  · have HR := Lib.hid hr
    have HT := Lib.hid (nd_top (b := 2) (c := W) (e := 64) (by omega) (by omega) W_two n h0)
    have HN : nd W n ≠ 0 := fun c => h0 ((nd_eq_zero W2).1 c)
    obtain ⟨L, hLe⟩ : ∃ L, nd W n = L + 1 := ⟨nd W n - 1, by omega⟩
    rw [hLe] at HR HT hL ⊢
    obtain ⟨g, rfl, _, hcell⟩ := HR.out.at_ (k := L) (by omega)
    have hw := wd_lt n L
    have HB := Lib.hid (bitLen_nd hw)
    have hb64 : Go.Lib.bitLen (dgt W n L) ≤ 64 := by rw [HB.out]; exact nd_le (by omega) hw
    clear hr
    go_enter Tryz.func76, Tryz.ntmps76
    go_wp2_with (go_at_call 72; refine (Tryz.bits_Len64 _ _ (by omega) (by omega)).mono ?_; rintro e w' ⟨rfl, rfl⟩)
    go_ret
    refine ⟨ret_int ?_, rfl⟩
    have h1 := HT.out
    have h2 := HB.out
    rw [Nat.add_sub_cancel] at h1
    rw [h2, h1]; omega

theorem u8_lt (x : UInt8) : x.toNat < 256 := x.toNat_lt
theorem or_word (a v r : Nat) (ha : a < 18446744073709551616) (hv : v < 256) (hr : r < 8) :
    bits BinOp.or IntKind.u64 (a : Int) (IntKind.u64.wrap (IntKind.u64.wrap (v : Int) * 2 ^ (r * 8))) = ((a ||| v * 256 ^ r : Nat) : Int) := by
  have h1 : v * 256 ^ r < 18446744073709551616 := by have := mul_lt_pow (b := 256) hv hr (by omega); rwa [← W_256, W_eq] at this
  have e : IntKind.u64.wrap (IntKind.u64.wrap (v : Int) * 2 ^ (r * 8)) = ((v * 256 ^ r : Nat) : Int) := by
    rw [IntKind.wrap_u64, IntKind.wrap_u64, Int.emod_eq_of_lt (a := (v : Int)) (by omega) (by omega)]
    have e2 : (v : Int) * 2 ^ (r * 8) = ((v * 256 ^ r : Nat) : Int) := by
      rw [Int.natCast_mul, Int.natCast_pow, Nat.mul_comm, Int.pow_mul]; rfl
    rw [e2, Int.emod_eq_of_lt (by omega) (by omega)]
  rw [e, bits_or_u64_nat _ _ ha h1]
set_option maxHeartbeats 400000 in
theorem Read_c (s : ByteArray) (w : World) (hs : s.size ≤ 1000000000) :
    Calls Tryz.prog 42 #[.string s] w (NumPost (bytesN s) w) := by
  obtain ⟨i0, hi0, hz0, hz1, hz2⟩ := info_parts (P := Tryz.prog) (e := 104) (z := .int .u64 0) (size := 1) (bytes := 8) (by kernel_rfl)
  obtain ⟨L, hL⟩ : ∃ L, (s.size + 7) / 8 = L := ⟨_, rfl⟩
  have HL := Lib.hid hL
  have hl : ((s.size : Int) + 7) / 8 = (L : Int) := by omega
  clear hL
  go_enter Tryz.func42, Tryz.ntmps42
  go_wp2_with (at_make; go_loud (refine wpList_make_zero _ rfl (.tmp 9) (.tmp 9) _ rfl 104 i0 _ Tryz.underlying92 hi0 hz0 hz1 .i64 .i64 _ _ L rfl rfl (by first | assumption | rfl) (by first | assumption | rfl) (by rw [hz2]; omega) (by unfold maxLen; omega) ?_))
  rw [wcells_made]
  have HB0 := Lib.hid (Blk.new w 104 (wcells 0 L))
  have hbl : Below w.heap.size w (w.alloc (.cells (wcells 0 L) 104)) := (Below.refl _ _).alloc (Nat.le_refl _) _
  generalize w.alloc (.cells (wcells 0 L) 104) = w1 at *
  obtain ⟨g, hg⟩ : ∃ g, g = w.heap.size := ⟨_, rfl⟩
  rw [← hg] at HB0 hbl ⊢
  have HG := Lib.hid hg
  clear hg
  go_loopw [13] (fun i wr => ∃ k : Nat, k ≤ s.size ∧ i = .int .i64 k ∧ Hid (Blk wr g 104 (wcells (readV s k) L)) ∧ Below g w wr) (fun i _ => s.size - (intOf i).toNat)
  case atStart => exact ⟨0, Nat.zero_le _, rfl, by rw [readV_zero]; exact HB0, hbl⟩
  case round =>
    obtain ⟨k, hk, rfl, hblk, hb⟩ := hrel
    by_cases hlt : k < s.size
    · obtain ⟨m, hm⟩ : ∃ m, s.size = k + 1 + m := ⟨s.size - k - 1, by omega⟩
      obtain ⟨q, hq⟩ : ∃ q, m / 8 = q := ⟨_, rfl⟩
      obtain ⟨r, hr⟩ : ∃ r, m % 8 = r := ⟨_, rfl⟩
      have hqL : q < L := by have := HL.out; omega
      have hc := hblk.out.cell q
      rw [wcells_get _ _ _ hqL] at hc
      have hfz := hblk.out.frozen q
      have hk1 : (s.size : Int) - 1 - (k : Int) = (m : Int) := by omega
      have hq1 : (m : Int) / 8 = (q : Int) := by omega
      have hr1 : (m : Int) % 8 = (r : Int) := by omega
      have hr8 : (r : Int) < 8 := by omega
      have hR8 : r < 8 := by omega
      have HM := Lib.hid hm
      have HQ := Lib.hid hq
      have HR := Lib.hid hr
      clear hm hq hr
      go_wp2
      go_region
      rw [or_word _ _ _ (wd_lt _ _) (u8_lt _) hR8]
      obtain ⟨e1, e2, e3⟩ := read_step s k m q r HM.out hlt HQ.out HR.out
      rw [e1]
      have HB1 := Lib.hid (hblk.out.set_ q (.int .u64 ((dgt W (readV s k) q + (s[k]).toNat * 256 ^ r : Nat) : Int))).drew
      rw [wcells_set _ _ _ _ e2, e3] at HB1
      have hb1 := (hb.setCell (p := ⟨g, q, none⟩) (Nat.le_refl _) (.int .u64 ((dgt W (readV s k) q + (s[k]).toNat * 256 ^ r : Nat) : Int))).drew
      clear e1 e2 e3
      go_wp2
      go_roundw
      case rel => exact ⟨k + 1, by omega, by go_num, HB1, hb1⟩
      case measure => simp [intOf]; omega
    · obtain rfl : k = s.size := by omega
      go_wp2_with fail
      go_at_call 74
      have hbk := hblk.out
      rw [readV_full] at hbk
      refine (Cut_c (some ⟨g, 0, none⟩) L L (bytesN s) wr.heap.size wr ?_ (Nat.le_refl _) (by omega) (Row.of_blk hbk hbk.lt)).mono ?_
      · have := bytesN_lt s
        refine Nat.lt_of_lt_of_le this ?_
        rw [W_256, ← Nat.pow_mul]; exact Nat.pow_le_pow_right (by omega) (by have := HL.out; omega)
      rintro e w' ⟨rfl, rfl⟩
      go_wp2
      go_ret
      have hnd : nd W (bytesN s) ≤ L := by
        have h1 := nd_le (b := 256) (by omega) (bytesN_lt s); rw [← words_bytes]; have := HL.out; omega
      exact NumPost.mk hnd ((Row.of_blk hbk hbk.lt).less hnd) (by rw [← HG.out]; exact hb)
end Go.Proofs.YtjalpocjgpgcfaaGreatDoor
set_option linter.unusedSimpArgs false
set_option linter.unusedVariables false
namespace Go.Proofs.YtjalpocjgpgcfaaGreatDoor
open Go Go.RowKit Nt

/-- Cells of one kind of integers by a function. -/
def fcells (k : IntKind) (f : Nat → Nat) (L : Nat) : Array Value := ((List.range L).map (fun j => Value.int k (f j : Nat))).toArray
theorem fcells_size (k : IntKind) (f : Nat → Nat) (L : Nat) : (fcells k f L).size = L := by simp [fcells]
theorem fcells_get (k : IntKind) (f : Nat → Nat) (L j : Nat) (h : j < L) : (fcells k f L)[j]? = some (.int k (f j : Nat)) := by
  unfold fcells
  rw [List.getElem?_toArray, List.getElem?_map, List.getElem?_range h]; rfl
theorem fcells_congr {k : IntKind} {f f' : Nat → Nat} {L : Nat} (h : ∀ j, j < L → f j = f' j) : fcells k f L = fcells k f' L := by
  unfold fcells; congr 1; apply List.map_congr_left; intro j hj; rw [h j (List.mem_range.1 hj)]
theorem fcells_set (k : IntKind) (f : Nat → Nat) (L i v : Nat) : (fcells k f L).setIfInBounds i (.int k (v : Nat)) = fcells k (fun j => if j = i then v else f j) L := by
  apply Array.ext_getElem?
  intro j
  rw [Array.getElem?_setIfInBounds, fcells_size]
  by_cases hj : j < L
  · rw [fcells_get k (fun j => if j = i then v else f j) L j hj]
    by_cases h : i = j
    · subst h; rw [if_pos rfl, if_pos hj, if_pos rfl]
    · rw [if_neg h, fcells_get k f L j hj, if_neg (fun c => h c.symm)]
  · rw [Array.getElem?_eq_none (xs := fcells k (fun j => if j = i then v else f j) L) (by rw [fcells_size]; omega)]
    by_cases h : i = j
    · subst h; rw [if_pos rfl, if_neg hj]
    · rw [if_neg h, Array.getElem?_eq_none (by rw [fcells_size]; omega)]
theorem fcells_made (k : IntKind) (L : Nat) : madeCells #[.int k 0] L = fcells k (fun _ => 0) L := by
  apply Array.ext_getElem?
  intro j
  by_cases h : j < L
  · rw [fcells_get k _ L j h]
    simp [madeCells, h, Nat.mod_one]
  · rw [Array.getElem?_eq_none (by simp [madeCells]; omega), Array.getElem?_eq_none (by rw [fcells_size]; omega)]
/-- The bytes of a number, the highest first, so many of them. -/
def byteF (n k j : Nat) : Nat := if j < k then dgt 256 n (nd 256 n - 1 - j) else 0
theorem byteF_step (n k j : Nat) : (if j = k then dgt 256 n (nd 256 n - 1 - k) else byteF n k j) = byteF n (k + 1) j := by
  unfold byteF
  by_cases h : j = k
  · subst h; rw [if_pos rfl, if_pos (by omega)]
  · rw [if_neg h]
    by_cases h2 : j < k
    · rw [if_pos h2, if_pos (by omega)]
    · rw [if_neg h2, if_neg (by omega)]
theorem shr_byte (n q r : Nat) (hr : r < 8) : dgt W n q / 256 ^ r % 256 = dgt 256 n (8 * q + r) := by
  have := dgt_in (b := 256) (e := 8) (by omega) n q r hr
  rw [← W_256] at this
  rw [← this, dgt_def 256]
theorem shr_val (n q r : Nat) (hr : r < 8) : ((dgt W n q : Nat) : Int) / 2 ^ (r * 8) % 256 = ((dgt 256 n (8 * q + r) : Nat) : Int) := by
  rw [← shr_byte n q r hr, Int.natCast_emod, Int.natCast_ediv, Int.natCast_pow, Nat.mul_comm r 8, Int.pow_mul]; rfl
theorem shr_word (a r : Nat) : (a : Int) / 2 ^ (r * 8) = ((a / 256 ^ r : Nat) : Int) := by
  rw [Int.natCast_ediv, Int.natCast_pow, Nat.mul_comm, Int.pow_mul]; rfl
theorem wrap_u8 (a : Nat) : IntKind.u8.wrap (a : Int) = ((a % 256 : Nat) : Int) := by
  simp [IntKind.wrap, IntKind.bits, IntKind.signed]
theorem add_plain0 (g j : Nat) : (⟨g, 0, none⟩ : Addr).add j = ⟨g, j, none⟩ := by
  unfold Addr.add; split
  · rename_i h; subst h; rfl
  · simp
set_option maxHeartbeats 400000 in
theorem Bytes_c (A : Option Addr) (c n B : Nat) (w : World) (hL : nd W n ≤ 1000000000) (hr : Row w B A n (nd W n)) (hB : B ≤ w.heap.size) :
    Calls Tryz.prog 77 #[.slice A (nd W n) c] w fun e w' => e = .returned (.string (natS n)) ∧ Below w.heap.size w w' := by
  obtain ⟨i0, hi0, hz0, hz1, hz2⟩ := info_parts (P := Tryz.prog) (e := 5) (z := .int .u8 0) (size := 1) (bytes := 1) (by kernel_rfl)
  have HLN := Lib.hid (words_bytes n)
  have HBB := Lib.hid (bytes_bits n)
  have hl : ((nd 2 n : Int) + 7) / 8 = (nd 256 n : Int) := by have := HBB.out; omega
  have hx : nd 256 n ≤ 8000000000 := by have := HLN.out; omega
  have hx2 : nd 2 n ≤ 64000000000 := by have := HBB.out; omega
  have HR := Lib.hid hr
  clear hr
  go_enter Tryz.func77, Tryz.ntmps77
  go_wp2_with (first | (go_at_call 76; refine (Len_c _ _ _ B _ hL HR.out).mono ?_; rintro e w' ⟨rfl, rfl⟩) | (at_make; go_loud (refine wpList_make_zero _ rfl (.tmp 9) (.tmp 9) _ rfl 5 i0 _ Tryz.underlying143 hi0 hz0 hz1 .i64 .i64 _ _ (nd 256 n) rfl rfl (by first | assumption | rfl) (by first | assumption | rfl) (by rw [hz2]; omega) (by unfold maxLen; omega) ?_)))
  rw [fcells_made]
  have HB0 := Lib.hid (Blk.new w 5 (fcells .u8 (fun _ => 0) (nd 256 n)))
  have hbl : Below w.heap.size w (w.alloc (.cells (fcells .u8 (fun _ => 0) (nd 256 n)) 5)) := (Below.refl _ _).alloc (Nat.le_refl _) _
  generalize w.alloc (.cells (fcells .u8 (fun _ => 0) (nd 256 n)) 5) = w1 at *
  obtain ⟨g, hg⟩ : ∃ g, g = w.heap.size := ⟨_, rfl⟩
  rw [← hg] at HB0 hbl ⊢
  have HG := Lib.hid hg
  clear hg
  obtain ⟨N, hN⟩ : ∃ N, N = nd 256 n := ⟨_, rfl⟩
  rw [← hN] at hl hx HB0 ⊢
  have HN := Lib.hid hN
  clear hN hl
  go_loopw [13] (fun i wr => ∃ k : Nat, k ≤ N ∧ i = .int .i64 k ∧ Hid (Blk wr g 5 (fcells .u8 (byteF n k) N)) ∧ Below g w wr) (fun i _ => N - (intOf i).toNat)
  case atStart => exact ⟨0, Nat.zero_le _, rfl, by rw [fcells_congr (f' := fun _ => 0) (fun j _ => by unfold byteF; rw [if_neg (by omega)])]; exact HB0, hbl⟩
  case round =>
    obtain ⟨k, hk, rfl, hblk, hb⟩ := hrel
    by_cases hlt : k < N
    · obtain ⟨m, hm⟩ : ∃ m, N = k + 1 + m := ⟨N - k - 1, by omega⟩
      obtain ⟨q, hq⟩ : ∃ q, m / 8 = q := ⟨_, rfl⟩
      obtain ⟨r, hr⟩ : ∃ r, m % 8 = r := ⟨_, rfl⟩
      have hqL : q < nd W n := by have := HLN.out; have := HN.out; omega
      obtain ⟨ga, rfl, hga, hca⟩ := HR.out.at_ hqL
      have hca2 := (hb.cell (p := ⟨ga, q, none⟩) (by have := HG.out; show ga < g; omega)).trans hca
      have hfz := hblk.out.frozen k
      have hck := hblk.out.cell k
      rw [fcells_get _ _ _ _ hlt] at hck
      have hk1 : (N : Int) - 1 - (k : Int) = (m : Int) := by omega
      have hq1 : (m : Int) / 8 = (q : Int) := by omega
      have hr1 : (m : Int) % 8 = (r : Int) := by omega
      have hr8 : (r : Int) < 8 := by omega
      have hR8 : r < 8 := by omega
      have HM := Lib.hid hm
      have HQ := Lib.hid hq
      have HR' := Lib.hid hr
      clear hm hq hr hca
      go_wp2
      rw [shr_val n q r hR8]
      have hv : 8 * q + r = nd 256 n - 1 - k := by have := HM.out; have := HN.out; have := HQ.out; have := HR'.out; omega
      rw [hv]
      have HB1 := Lib.hid (hblk.out.set_ k (.int .u8 ((dgt 256 n (nd 256 n - 1 - k) : Nat) : Int)))
      rw [fcells_set, fcells_congr (f' := byteF n (k + 1)) (fun j _ => byteF_step n k j)] at HB1
      have hb1 := hb.setCell (p := ⟨g, k, none⟩) (Nat.le_refl _) (.int .u8 ((dgt 256 n (nd 256 n - 1 - k) : Nat) : Int))
      go_roundw
      case rel => exact ⟨k + 1, by omega, by go_num, HB1, hb1⟩
      case measure => simp [intOf]; omega
    · obtain rfl : k = N := by omega
      have hcv : (convert 143 9 (.slice (some ⟨g, 0, none⟩) k k)).run Tryz.prog wr = .ok (.string (natS n)) wr := by
        have hN := HN.out
        have hl : ((dl 256 n (nd 256 n)).reverse.map UInt8.ofNat).length = k := by simp [dl_length, hN]
        have h := run_convert_bytes_back (P := Tryz.prog) wr 143 9 5 ⟨g, 0, none⟩ k ((dl 256 n (nd 256 n)).reverse.map UInt8.ofNat) Tryz.underlying143 Tryz.underlying5 Tryz.underlying9 (fun j hj => by
          rw [add_plain0, hblk.out.cell, fcells_get _ _ _ _ (by rw [← hl]; exact hj)]
          have e := natS_get n j (by rw [natS_size, ← hN, ← hl]; exact hj)
          rw [ba_get] at e
          simp only [natS_def] at e
          rw [List.getElem_toArray] at e
          rw [e]
          unfold byteF
          rw [if_pos (by rw [← hl]; exact hj)])
        rw [hl, ← natS_def] at h
        exact h
      go_wp2
      go_ret
      exact ⟨rfl, by rw [← HG.out]; exact hb⟩
end Go.Proofs.YtjalpocjgpgcfaaGreatDoor
set_option linter.unusedSimpArgs false
set_option linter.unusedVariables false
namespace Go.Proofs.YtjalpocjgpgcfaaGreatDoor
open Go Go.RowKit Nt

@[irreducible] def cmpN (a b : Nat) : Int := if a < b then -1 else if a = b then 0 else 1
theorem cmpN_lt {a b : Nat} (h : a < b) : cmpN a b = -1 := by unfold cmpN; rw [if_pos h]
theorem cmpN_eq (a : Nat) : cmpN a a = 0 := by unfold cmpN; rw [if_neg (by omega), if_pos rfl]
theorem cmpN_gt {a b : Nat} (h : b < a) : cmpN a b = 1 := by unfold cmpN; rw [if_neg (by omega), if_neg (by omega)]
theorem lt_of_nd {b m n : Nat} (hb : 2 ≤ b) (h : nd b m < nd b n) : m < n := by
  have h1 := lt_nd (n := m) hb
  have h2 := (pow_le_iff hb _ _).2 h
  omega
theorem lt_of_digit {b x y m L : Nat} (hb : 2 ≤ b) (hx : x < b ^ L) (hy : y < b ^ L) (hm : m < L) (h : ∀ j, m + 1 ≤ j → j < L → dgt b x j = dgt b y j) (hd : dgt b x m < dgt b y m) : x < y := by
  have key : x / b ^ (m + 1) = y / b ^ (m + 1) := by
    obtain ⟨d, rfl⟩ : ∃ d, L = m + 1 + d := ⟨L - (m + 1), by omega⟩
    refine eq_of_digits (b := b) (L := d) ?_ ?_ (fun i hi => ?_)
    · rw [Nat.div_lt_iff_lt_mul (Nat.pow_pos (by omega)), ← Nat.pow_add, Nat.add_comm d]; exact hx
    · rw [Nat.div_lt_iff_lt_mul (Nat.pow_pos (by omega)), ← Nat.pow_add, Nat.add_comm d]; exact hy
    · rw [dgt_skip, dgt_skip]; exact h _ (by omega) (by omega)
  have h1 := div_eq_dgt (b := b) (by omega) x m
  have h2 := div_eq_dgt (b := b) (by omega) y m
  rw [key] at h1
  rcases Nat.lt_or_ge x y with h3 | h3
  · exact h3
  · have := Nat.div_le_div_right (c := b ^ m) h3; omega
/-- Only draws happened. -/
def Drawn (w w' : World) : Prop := ∃ n, w' = w.drewN n
theorem Drawn.refl (w : World) : Drawn w w := ⟨0, rfl⟩
theorem Drawn.more {w w' : World} (h : Drawn w w') (m : Nat) : Drawn w (w'.drewN m) := by obtain ⟨n, rfl⟩ := h; exact ⟨n + m, World.drewN_drewN _ _ _⟩
set_option maxHeartbeats 400000 in
theorem Cmp_c (A A' : Option Addr) (c c' a b B : Nat) (w : World) (hL : nd W a ≤ 1000000000) (hL' : nd W b ≤ 1000000000) (hr : Row w B A a (nd W a)) (hr' : Row w B A' b (nd W b)) :
    Calls Tryz.prog 45 #[.slice A (nd W a) c, .slice A' (nd W b) c'] w fun e w' => e = .returned (.int .i64 (cmpN a b)) ∧ ∃ n, w' = w.drewN n := by
  have HR := Lib.hid hr
  have HR' := Lib.hid hr'
  clear hr hr'
  rcases Nat.lt_trichotomy (nd W a) (nd W b) with h | h | h
  · have hn : ((nd W a : Int) != (nd W b : Int)) = true := by rw [bne_iff_ne]; omega
    have HC := Lib.hid (cmpN_lt (lt_of_nd W2 h))
    go_enter Tryz.func45, Tryz.ntmps45
    go_wp2
    go_ret
    exact ⟨ret_int HC.out.symm, 0, rfl⟩
  · have ha := lt_nd (n := a) W2
    have hb := lt_nd (n := b) W2
    rw [← h] at hb hL' HR' ⊢
    have HA := Lib.hid ha
    have HB := Lib.hid hb
    have HE := Lib.hid h
    clear ha hb h
    obtain ⟨L, hLe⟩ : ∃ L, L = nd W a := ⟨_, rfl⟩
    have hLL : L ≤ 1000000000 := by omega
    rw [← hLe] at HA HB HR HR' ⊢
    have hw : wrap64 ((L : Int) - 1) = (L : Int) - 1 := IntWalk.wrap64_in _ (by omega)
    have hn : ((L : Int) != (L : Int)) = false := by simp
    have HLE := Lib.hid hLe
    clear hLe
    go_enter Tryz.func45, Tryz.ntmps45
    go_wp2
    go_loopw [5] (fun i wr => ∃ (k : Nat) (z : Int) (m : Nat), k ≤ L ∧ i = .int .i64 z ∧ Hid (z = (k : Int) - 1) ∧ Hid (∀ j, k ≤ j → j < L → dgt W a j = dgt W b j) ∧ wr = w.drewN m) (fun i _ => (intOf i + 1).toNat)
    case atStart => exact ⟨L, _, 0, Nat.le_refl _, rfl, Lib.hid rfl, Lib.hid (fun j h1 h2 => by omega), rfl⟩
    case round =>
      obtain ⟨k, z, mm, hk, rfl, hz, hd, rfl⟩ := hrel
      by_cases h0 : k = 0
      · subst h0
        obtain rfl : z = -1 := by have := hz.out; omega
        go_wp2
        go_ret
        refine ⟨ret_int ?_, _, rfl⟩
        obtain rfl : a = b := eq_of_digits HA.out HB.out (fun i hi => hd.out i (by omega) hi)
        exact (cmpN_eq _).symm
      · obtain ⟨m, rfl⟩ : ∃ m, k = m + 1 := ⟨k - 1, by omega⟩
        obtain rfl : z = (m : Int) := by have := hz.out; omega
        obtain ⟨g, rfl, _, hc⟩ := HR.out.at_ (k := m) (by omega)
        obtain ⟨g', rfl, _, hc'⟩ := HR'.out.at_ (k := m) (by omega)
        have hm : m < L := by omega
        have hw : wrap64 ((m : Int) - 1) = (m : Int) - 1 := IntWalk.wrap64_in _ (by omega)
        rcases Nat.lt_trichotomy (dgt W a m) (dgt W b m) with hlt | heq | hgt
        · have HC := Lib.hid (cmpN_lt (lt_of_digit W2 HA.out HB.out hm hd.out hlt))
          go_wp2
          go_quiet (fail)
          go_wp2
          go_ret
          exact ⟨ret_int HC.out.symm, by first | exact Drawn.more ⟨_, rfl⟩ _ | exact Drawn.more (Drawn.more ⟨_, rfl⟩ _) _⟩
        · have HD := Lib.hid heq
          have h1 : ¬ dgt W a m < dgt W b m := by omega
          have h2 : ¬ dgt W b m < dgt W a m := by omega
          clear heq
          go_wp2
          go_quiet (fail)
          go_wp2
          go_quiet (fail)
          go_wp2
          go_roundw
          case rel => exact ⟨m, _, _, by omega, rfl, Lib.hid rfl, Lib.hid (fun j h1 h2 => by
            rcases Nat.lt_or_ge m j with h3 | h3
            · exact hd.out j h3 h2
            · obtain rfl : j = m := by omega
              exact HD.out), rfl⟩
          case measure => simp [intOf]
        · have HC := Lib.hid (cmpN_gt (lt_of_digit W2 HB.out HA.out hm (fun j h1 h2 => (hd.out j h1 h2).symm) hgt))
          have h1 : ¬ dgt W a m < dgt W b m := by omega
          go_wp2
          go_quiet (fail)
          go_wp2
          go_quiet (fail)
          go_wp2
          go_ret
          exact ⟨ret_int HC.out.symm, by first | exact Drawn.more ⟨_, rfl⟩ _ | exact Drawn.more (Drawn.more ⟨_, rfl⟩ _) _⟩
  · have hn : ((nd W a : Int) != (nd W b : Int)) = true := by rw [bne_iff_ne]; omega
    have HC := Lib.hid (cmpN_gt (lt_of_nd W2 h))
    have h2 : ¬ nd W a < nd W b := by omega
    go_enter Tryz.func45, Tryz.ntmps45
    go_wp2
    go_ret
    exact ⟨ret_int HC.out.symm, 0, rfl⟩
end Go.Proofs.YtjalpocjgpgcfaaGreatDoor
set_option linter.unusedSimpArgs false
set_option linter.unusedVariables false
namespace Go.Proofs.YtjalpocjgpgcfaaGreatDoor
open Go Go.RowKit Nt

theorem add_word (x y i : Nat) : (dgt W x i + dgt W y i + car W x y i) % 18446744073709551616 = dgt W (x + y) i := by rw [dgt_add W0, W_eq]
theorem add_carry (x y i : Nat) : (dgt W x i + dgt W y i + car W x y i) / 18446744073709551616 = car W x y (i + 1) := by rw [car_succ W0, W_eq]
/-- The sum, when i words of it stand. -/
theorem put_sum (s i : Nat) : put W (s % W ^ i) i (dgt W s i) = s % W ^ (i + 1) := put_mod W2 s i
theorem mod_one (s : Nat) : s % W ^ 0 = 0 := by rw [Nat.pow_zero, Nat.mod_one]
set_option maxHeartbeats 1000000 in
/-- The loop of Add, where a has no fewer words. -/
theorem Add_ge (A A' : Option Addr) (c c' a b B : Nat) (w : World) (hL : nd W a ≤ 1000000000) (hL' : nd W b ≤ nd W a) (hr : Row w B A a (nd W a)) (hr' : Row w B A' b (nd W b)) (hBs : B ≤ w.heap.size) :
    Calls Tryz.prog 44 #[.slice A (nd W a) c, .slice A' (nd W b) c'] w (NumPost (a + b) w) := by
  obtain ⟨i0, hi0, hz0, hz1, hz2⟩ := info_parts (P := Tryz.prog) (e := 104) (z := .int .u64 0) (size := 1) (bytes := 8) (by kernel_rfl)
  have HR := Lib.hid hr
  have HR' := Lib.hid hr'
  have HA := Lib.hid (lt_nd (n := a) W2)
  have HB := Lib.hid (lt_nd (n := b) W2)
  clear hr hr'
  have hn : ¬ nd W a < nd W b := by omega
  go_enter Tryz.func44, Tryz.ntmps44
  go_wp2_with (at_make; go_loud (refine wpList_make_zero _ rfl (.tmp 19) (.tmp 19) _ rfl 104 i0 _ Tryz.underlying92 hi0 hz0 hz1 .i64 .i64 _ _ (nd W a + 1) rfl rfl (by omega) (by omega) (by rw [hz2]; omega) (by unfold maxLen; omega) ?_))
  rw [wcells_made]
  have HB0 := Lib.hid (Blk.new w 104 (wcells 0 (nd W a + 1)))
  have hbl : Below w.heap.size w (w.alloc (.cells (wcells 0 (nd W a + 1)) 104)) := (Below.refl _ _).alloc (Nat.le_refl _) _
  generalize w.alloc (.cells (wcells 0 (nd W a + 1)) 104) = w1 at *
  obtain ⟨g, hg⟩ : ∃ g, g = w.heap.size := ⟨_, rfl⟩
  rw [← hg] at HB0 hbl hBs ⊢
  have HG := Lib.hid hg
  clear hg
  go_loopw [6, 23] (fun cy i wr => ∃ k : Nat, k ≤ nd W a ∧ i = .int .i64 k ∧ cy = .int .u64 (car W a b k : Nat) ∧ Hid (Blk wr g 104 (wcells ((a + b) % W ^ k) (nd W a + 1))) ∧ Below g w wr) (fun _ i _ => nd W a - (intOf i).toNat)
  case atStart => exact ⟨0, Nat.zero_le _, rfl, by rw [car_zero]; rfl, by rw [mod_one]; exact HB0, hbl⟩
  case round =>
    obtain ⟨k, hk, rfl, rfl, hblk, hb⟩ := hrel
    by_cases hlt : k < nd W a
    · obtain ⟨ga, rfl, hga, hca⟩ := HR.out.at_ hlt
      have hca2 := (hb.cell (p := ⟨ga, k, none⟩) (by show ga < g; omega)).trans hca
      have hfz := hblk.out.frozen k
      have hck := hblk.out.cell k
      rw [wcells_get _ _ _ (by omega)] at hck
      have hc1 := car_le W0 a b k
      clear hca
      by_cases hlt' : k < nd W b
      · obtain ⟨gb, rfl, hgb, hcb⟩ := HR'.out.at_ hlt'
        have hcb2 := (hb.cell (p := ⟨gb, k, none⟩) (by show gb < g; omega)).trans hcb
        clear hcb
        have hadd : ∀ w, (callFunc 79 #[.int .u64 (dgt W a k : Nat), .int .u64 (dgt W b k : Nat), .int .u64 (car W a b k : Nat)]).run Tryz.prog w = .ok (.value (.tuple #[.int .u64 (dgt W (a + b) k : Nat), .int .u64 (car W a b (k + 1) : Nat)])) w := fun w => by
          rw [Tryz.bits_Add64 _ _ _ hc1 w, add_word, add_carry]
        have HS := Lib.hid hblk
        have HB1 := Lib.hid (hblk.out.set_ k (.int .u64 (dgt W (a + b) k : Nat)))
        rw [wcells_set _ _ _ _ (wd_lt _ _), put_sum] at HB1
        have hb1 := hb.setCell (p := ⟨g, k, none⟩) (Nat.le_refl _) (.int .u64 (dgt W (a + b) k : Nat))
        go_wp2_with (simp only [hadd])
        go_roundw
        case rel => exact ⟨k + 1, by omega, by go_num, rfl, HB1, hb1⟩
        case measure => simp [intOf]; omega
      · have hadd : ∀ w, (callFunc 79 #[.int .u64 (dgt W a k : Nat), .int .u64 0, .int .u64 (car W a b k : Nat)]).run Tryz.prog w = .ok (.value (.tuple #[.int .u64 (dgt W (a + b) k : Nat), .int .u64 (car W a b (k + 1) : Nat)])) w := fun w => by
          have h := Tryz.bits_Add64 (dgt W a k) (dgt W b k) _ hc1 w
          rw [add_word, add_carry] at h
          have e : dgt W b k = 0 := dgt_big W2 (by omega)
          rw [e] at h
          exact h
        have HB1 := Lib.hid (hblk.out.set_ k (.int .u64 (dgt W (a + b) k : Nat)))
        rw [wcells_set _ _ _ _ (wd_lt _ _), put_sum] at HB1
        have hb1 := hb.setCell (p := ⟨g, k, none⟩) (Nat.le_refl _) (.int .u64 (dgt W (a + b) k : Nat))
        go_wp2_with (simp only [hadd])
        go_roundw
        case rel => exact ⟨k + 1, by omega, by go_num, rfl, HB1, hb1⟩
        case measure => simp [intOf]; omega
    · obtain rfl : k = nd W a := by omega
      have hfz := hblk.out.frozen (nd W a)
      have hck := hblk.out.cell (nd W a)
      rw [wcells_get _ _ _ (by omega)] at hck
      have hB' : b < W ^ nd W a := (lt_pow_iff W2 _ _).2 hL'
      rw [car_last W2 a b _ HA.out hB']
      have hs : a + b < W ^ (nd W a + 1) := by
        have h1 := HA.out
        rw [Nat.pow_succ]
        have h2 : 2 * W ^ nd W a ≤ W ^ nd W a * W := by rw [Nat.mul_comm]; exact Nat.mul_le_mul_left _ W2
        omega
      have HB1 := hblk.out.set_ (nd W a) (.int .u64 (dgt W (a + b) (nd W a) : Nat))
      rw [wcells_set _ _ _ _ (wd_lt _ _), put_sum, Nat.mod_eq_of_lt hs] at HB1
      have HB1' := Lib.hid HB1
      have hb1 := hb.setCell (p := ⟨g, nd W a, none⟩) (Nat.le_refl _) (.int .u64 (dgt W (a + b) (nd W a) : Nat))
      have HS := Lib.hid hs
      clear HB1 hs hB'
      go_wp2_with fail
      refine (Cut_c (some ⟨g, 0, none⟩) (nd W a + 1) (nd W a + 1) (a + b) (g + 1) _ HS.out (Nat.le_refl _) (by omega) (Row.of_blk HB1'.out (by omega))).mono ?_
      rintro e w' ⟨rfl, rfl⟩
      go_wp2
      go_ret
      have hnd := nd_le W2 HS.out
      exact NumPost.mk hnd ((Row.of_blk HB1'.out HB1'.out.lt).less hnd) (by rw [← HG.out]; exact hb1)
set_option maxHeartbeats 1000000 in
/-- The same, handed in the other way round. -/
theorem Add_lt (A A' : Option Addr) (c c' a b B : Nat) (w : World) (hL : nd W a ≤ 1000000000) (hL' : nd W b < nd W a) (hr : Row w B A a (nd W a)) (hr' : Row w B A' b (nd W b)) (hBs : B ≤ w.heap.size) :
    Calls Tryz.prog 44 #[.slice A' (nd W b) c', .slice A (nd W a) c] w (NumPost (a + b) w) := by
  obtain ⟨i0, hi0, hz0, hz1, hz2⟩ := info_parts (P := Tryz.prog) (e := 104) (z := .int .u64 0) (size := 1) (bytes := 8) (by kernel_rfl)
  have HR := Lib.hid hr
  have HR' := Lib.hid hr'
  have HA := Lib.hid (lt_nd (n := a) W2)
  have HB := Lib.hid (lt_nd (n := b) W2)
  clear hr hr'
  have hn : nd W b < nd W a := by omega
  go_enter Tryz.func44, Tryz.ntmps44
  go_wp2_with (at_make; go_loud (refine wpList_make_zero _ rfl (.tmp 19) (.tmp 19) _ rfl 104 i0 _ Tryz.underlying92 hi0 hz0 hz1 .i64 .i64 _ _ (nd W a + 1) rfl rfl (by omega) (by omega) (by rw [hz2]; omega) (by unfold maxLen; omega) ?_))
  rw [wcells_made]
  have HB0 := Lib.hid (Blk.new w 104 (wcells 0 (nd W a + 1)))
  have hbl : Below w.heap.size w (w.alloc (.cells (wcells 0 (nd W a + 1)) 104)) := (Below.refl _ _).alloc (Nat.le_refl _) _
  generalize w.alloc (.cells (wcells 0 (nd W a + 1)) 104) = w1 at *
  obtain ⟨g, hg⟩ : ∃ g, g = w.heap.size := ⟨_, rfl⟩
  rw [← hg] at HB0 hbl hBs ⊢
  have HG := Lib.hid hg
  clear hg
  go_loopw [6, 23] (fun cy i wr => ∃ k : Nat, k ≤ nd W a ∧ i = .int .i64 k ∧ cy = .int .u64 (car W a b k : Nat) ∧ Hid (Blk wr g 104 (wcells ((a + b) % W ^ k) (nd W a + 1))) ∧ Below g w wr) (fun _ i _ => nd W a - (intOf i).toNat)
  case atStart => exact ⟨0, Nat.zero_le _, rfl, by rw [car_zero]; rfl, by rw [mod_one]; exact HB0, hbl⟩
  case round =>
    obtain ⟨k, hk, rfl, rfl, hblk, hb⟩ := hrel
    by_cases hlt : k < nd W a
    · obtain ⟨ga, rfl, hga, hca⟩ := HR.out.at_ hlt
      have hca2 := (hb.cell (p := ⟨ga, k, none⟩) (by show ga < g; omega)).trans hca
      have hfz := hblk.out.frozen k
      have hck := hblk.out.cell k
      rw [wcells_get _ _ _ (by omega)] at hck
      have hc1 := car_le W0 a b k
      clear hca
      by_cases hlt' : k < nd W b
      · obtain ⟨gb, rfl, hgb, hcb⟩ := HR'.out.at_ hlt'
        have hcb2 := (hb.cell (p := ⟨gb, k, none⟩) (by show gb < g; omega)).trans hcb
        clear hcb
        have hadd : ∀ w, (callFunc 79 #[.int .u64 (dgt W a k : Nat), .int .u64 (dgt W b k : Nat), .int .u64 (car W a b k : Nat)]).run Tryz.prog w = .ok (.value (.tuple #[.int .u64 (dgt W (a + b) k : Nat), .int .u64 (car W a b (k + 1) : Nat)])) w := fun w => by
          rw [Tryz.bits_Add64 _ _ _ hc1 w, add_word, add_carry]
        have HS := Lib.hid hblk
        have HB1 := Lib.hid (hblk.out.set_ k (.int .u64 (dgt W (a + b) k : Nat)))
        rw [wcells_set _ _ _ _ (wd_lt _ _), put_sum] at HB1
        have hb1 := hb.setCell (p := ⟨g, k, none⟩) (Nat.le_refl _) (.int .u64 (dgt W (a + b) k : Nat))
        go_wp2_with (simp only [hadd])
        go_roundw
        case rel => exact ⟨k + 1, by omega, by go_num, rfl, HB1, hb1⟩
        case measure => simp [intOf]; omega
      · have hadd : ∀ w, (callFunc 79 #[.int .u64 (dgt W a k : Nat), .int .u64 0, .int .u64 (car W a b k : Nat)]).run Tryz.prog w = .ok (.value (.tuple #[.int .u64 (dgt W (a + b) k : Nat), .int .u64 (car W a b (k + 1) : Nat)])) w := fun w => by
          have h := Tryz.bits_Add64 (dgt W a k) (dgt W b k) _ hc1 w
          rw [add_word, add_carry] at h
          have e : dgt W b k = 0 := dgt_big W2 (by omega)
          rw [e] at h
          exact h
        have HB1 := Lib.hid (hblk.out.set_ k (.int .u64 (dgt W (a + b) k : Nat)))
        rw [wcells_set _ _ _ _ (wd_lt _ _), put_sum] at HB1
        have hb1 := hb.setCell (p := ⟨g, k, none⟩) (Nat.le_refl _) (.int .u64 (dgt W (a + b) k : Nat))
        go_wp2_with (simp only [hadd])
        go_roundw
        case rel => exact ⟨k + 1, by omega, by go_num, rfl, HB1, hb1⟩
        case measure => simp [intOf]; omega
    · obtain rfl : k = nd W a := by omega
      have hfz := hblk.out.frozen (nd W a)
      have hck := hblk.out.cell (nd W a)
      rw [wcells_get _ _ _ (by omega)] at hck
      have hB' : b < W ^ nd W a := (lt_pow_iff W2 _ _).2 (by omega)
      rw [car_last W2 a b _ HA.out hB']
      have hs : a + b < W ^ (nd W a + 1) := by
        have h1 := HA.out
        rw [Nat.pow_succ]
        have h2 : 2 * W ^ nd W a ≤ W ^ nd W a * W := by rw [Nat.mul_comm]; exact Nat.mul_le_mul_left _ W2
        omega
      have HB1 := hblk.out.set_ (nd W a) (.int .u64 (dgt W (a + b) (nd W a) : Nat))
      rw [wcells_set _ _ _ _ (wd_lt _ _), put_sum, Nat.mod_eq_of_lt hs] at HB1
      have HB1' := Lib.hid HB1
      have hb1 := hb.setCell (p := ⟨g, nd W a, none⟩) (Nat.le_refl _) (.int .u64 (dgt W (a + b) (nd W a) : Nat))
      have HS := Lib.hid hs
      clear HB1 hs hB'
      go_wp2_with fail
      refine (Cut_c (some ⟨g, 0, none⟩) (nd W a + 1) (nd W a + 1) (a + b) (g + 1) _ HS.out (Nat.le_refl _) (by omega) (Row.of_blk HB1'.out (by omega))).mono ?_
      rintro e w' ⟨rfl, rfl⟩
      go_wp2
      go_ret
      have hnd := nd_le W2 HS.out
      exact NumPost.mk hnd ((Row.of_blk HB1'.out HB1'.out.lt).less hnd) (by rw [← HG.out]; exact hb1)
theorem Add_c (A A' : Option Addr) (c c' a b B : Nat) (w : World) (hL : nd W a ≤ 1000000000) (hL' : nd W b ≤ 1000000000) (hr : Row w B A a (nd W a)) (hr' : Row w B A' b (nd W b)) (hBs : B ≤ w.heap.size) :
    Calls Tryz.prog 44 #[.slice A (nd W a) c, .slice A' (nd W b) c'] w (NumPost (a + b) w) := by
  rcases Nat.lt_or_ge (nd W a) (nd W b) with h | h
  · rw [Nat.add_comm]; exact Add_lt A' A c' c b a B w hL' h hr' hr hBs
  · exact Add_ge A A' c c' a b B w hL h hr hr' hBs
theorem sub_word (x y i : Nat) (h : y ≤ x) : (dgt W x i + 18446744073709551616 - dgt W y i - bor W x y i) % 18446744073709551616 = dgt W (x - y) i := by rw [dgt_sub W2 _ _ _ h, W_eq]
theorem sub_borrow (x y i : Nat) : (if dgt W x i < dgt W y i + bor W x y i then 1 else 0) = bor W x y (i + 1) := by rw [bor_succ W0]
set_option maxHeartbeats 1000000 in
theorem Sub_c (A A' : Option Addr) (c c' a b B : Nat) (w : World) (hba : b ≤ a) (hL : nd W a ≤ 1000000000) (hr : Row w B A a (nd W a)) (hr' : Row w B A' b (nd W b)) (hBs : B ≤ w.heap.size) :
    Calls Tryz.prog 46 #[.slice A (nd W a) c, .slice A' (nd W b) c'] w (NumPost (a - b) w) := by
  obtain ⟨i0, hi0, hz0, hz1, hz2⟩ := info_parts (P := Tryz.prog) (e := 104) (z := .int .u64 0) (size := 1) (bytes := 8) (by kernel_rfl)
  have HBA := Lib.hid hba
  have HR := Lib.hid hr
  have HR' := Lib.hid hr'
  have HA := Lib.hid (lt_nd (n := a) W2)
  have hL' := nd_mono W2 hba
  clear hr hr' hba
  go_enter Tryz.func46, Tryz.ntmps46
  go_wp2_with (at_make; go_loud (refine wpList_make_zero _ rfl (.tmp 11) (.tmp 11) _ rfl 104 i0 _ Tryz.underlying92 hi0 hz0 hz1 .i64 .i64 _ _ (nd W a) rfl rfl rfl rfl (by rw [hz2]; omega) (by unfold maxLen; omega) ?_))
  rw [wcells_made]
  have HB0 := Lib.hid (Blk.new w 104 (wcells 0 (nd W a)))
  have hbl : Below w.heap.size w (w.alloc (.cells (wcells 0 (nd W a)) 104)) := (Below.refl _ _).alloc (Nat.le_refl _) _
  generalize w.alloc (.cells (wcells 0 (nd W a)) 104) = w1 at *
  obtain ⟨g, hg⟩ : ∃ g, g = w.heap.size := ⟨_, rfl⟩
  rw [← hg] at HB0 hbl hBs ⊢
  have HG := Lib.hid hg
  clear hg
  go_loopw [6, 15] (fun cy i wr => ∃ k : Nat, k ≤ nd W a ∧ i = .int .i64 k ∧ cy = .int .u64 (bor W a b k : Nat) ∧ Hid (Blk wr g 104 (wcells ((a - b) % W ^ k) (nd W a))) ∧ Below g w wr) (fun _ i _ => nd W a - (intOf i).toNat)
  case atStart => exact ⟨0, Nat.zero_le _, rfl, by rw [bor_zero]; rfl, by rw [mod_one]; exact HB0, hbl⟩
  case round =>
    obtain ⟨k, hk, rfl, rfl, hblk, hb⟩ := hrel
    by_cases hlt : k < nd W a
    · obtain ⟨ga, rfl, hga, hca⟩ := HR.out.at_ hlt
      have hca2 := (hb.cell (p := ⟨ga, k, none⟩) (by show ga < g; omega)).trans hca
      have hfz := hblk.out.frozen k
      have hck := hblk.out.cell k
      rw [wcells_get _ _ _ (by omega)] at hck
      have hc1 := bor_le W a b k
      clear hca
      have hsub' : ∀ w, (callFunc 80 #[.int .u64 (dgt W a k : Nat), .int .u64 (dgt W b k : Nat), .int .u64 (bor W a b k : Nat)]).run Tryz.prog w = .ok (.value (.tuple #[.int .u64 (dgt W (a - b) k : Nat), .int .u64 (bor W a b (k + 1) : Nat)])) w := fun w => by
        rw [Tryz.bits_Sub64 _ _ _ hc1 w, sub_word _ _ _ HBA.out, sub_borrow]
      have HS := Lib.hid hsub'
      clear hsub'
      have HB1 := Lib.hid (hblk.out.set_ k (.int .u64 (dgt W (a - b) k : Nat)))
      rw [wcells_set _ _ _ _ (wd_lt _ _), put_sum] at HB1
      have hb1 := hb.setCell (p := ⟨g, k, none⟩) (Nat.le_refl _) (.int .u64 (dgt W (a - b) k : Nat))
      by_cases hlt' : k < nd W b
      · obtain ⟨gb, rfl, hgb, hcb⟩ := HR'.out.at_ hlt'
        have hcb2 := (hb.cell (p := ⟨gb, k, none⟩) (by show gb < g; omega)).trans hcb
        clear hcb
        have hadd := HS.out
        go_wp2_with (simp only [hadd])
        go_roundw
        case rel => exact ⟨k + 1, by omega, by go_num, rfl, HB1, hb1⟩
        case measure => simp [intOf]; omega
      · have hadd : ∀ w, (callFunc 80 #[.int .u64 (dgt W a k : Nat), .int .u64 0, .int .u64 (bor W a b k : Nat)]).run Tryz.prog w = .ok (.value (.tuple #[.int .u64 (dgt W (a - b) k : Nat), .int .u64 (bor W a b (k + 1) : Nat)])) w := fun w => by
          have h := HS.out w
          have e : dgt W b k = 0 := dgt_big W2 (by omega)
          rw [e] at h
          exact h
        go_wp2_with (simp only [hadd])
        go_roundw
        case rel => exact ⟨k + 1, by omega, by go_num, rfl, HB1, hb1⟩
        case measure => simp [intOf]; omega
    · obtain rfl : k = nd W a := by omega
      have hs : a - b < W ^ nd W a := Nat.lt_of_le_of_lt (Nat.sub_le _ _) HA.out
      have HS := Lib.hid hs
      have HB1 := hblk.out
      rw [Nat.mod_eq_of_lt hs] at HB1
      have HB1' := Lib.hid HB1
      clear HB1 hs
      go_wp2_with fail
      refine (Cut_c (some ⟨g, 0, none⟩) (nd W a) (nd W a) (a - b) (g + 1) _ HS.out (Nat.le_refl _) (by omega) (Row.of_blk HB1'.out (by omega))).mono ?_
      rintro e w' ⟨rfl, rfl⟩
      go_wp2
      go_ret
      have hnd := nd_le W2 HS.out
      exact NumPost.mk hnd ((Row.of_blk HB1'.out HB1'.out.lt).less hnd) (by rw [← HG.out]; exact hb)
end Go.Proofs.YtjalpocjgpgcfaaGreatDoor
set_option linter.unusedSimpArgs false
set_option linter.unusedVariables false
namespace Go.Proofs.YtjalpocjgpgcfaaGreatDoor
open Go Go.RowKit Nt

theorem mca_low (x y m i : Nat) : (dgt W x i * y % 18446744073709551616 + mca W x y m i + 0) % 18446744073709551616 = dgt W (x * y + m) i := by
  rw [Nat.add_zero, two_mod, dgt_mca W0, W_eq]
theorem mca_high (x y m i : Nat) : dgt W x i * y / 18446744073709551616 + (dgt W x i * y % 18446744073709551616 + mca W x y m i + 0) / 18446744073709551616 = mca W x y m (i + 1) := by
  rw [Nat.add_zero, two_div (by omega), mca_succ W0, W_eq]
theorem wadd_nat {a b c : Nat} (h : a + b = c) (hc : c < 18446744073709551616) : IntKind.u64.wrap ((a : Int) + (b : Int)) = (c : Int) := by
  rw [IntKind.wrap_u64, ← Int.natCast_add, h, Int.emod_eq_of_lt (by omega) (by omega)]
end Go.Proofs.YtjalpocjgpgcfaaGreatDoor
set_option linter.unusedSimpArgs false
set_option linter.unusedVariables false
namespace Go.Proofs.YtjalpocjgpgcfaaGreatDoor
open Go Go.RowKit Nt

@[irreducible] def b32 (x : Nat) : Bool := decide (4294967296 ≤ x)
theorem b32_true {x : Nat} (h : 4294967296 ≤ x) : b32 x = true := by unfold b32; exact decide_eq_true_iff.2 h
theorem b32_false {x : Nat} (h : ¬ 4294967296 ≤ x) : b32 x = false := by unfold b32; exact decide_eq_false_iff_not.2 h
@[local go_sem] theorem ge_b32 (x : Nat) : decide ((4294967296 : Int) ≤ (x : Int)) = b32 x := by
  unfold b32; rw [Bool.eq_iff_iff, decide_eq_true_iff, decide_eq_true_iff]; omega
theorem wrap_nat (z : Int) : ∃ n : Nat, IntKind.u64.wrap z = (n : Int) := by
  refine ⟨(IntKind.u64.wrap z).toNat, ?_⟩
  rw [IntKind.wrap_u64]; omega
theorem wrap_r (u c Q Y : Nat) (h : Q * Y ≤ u * 4294967296 + c) (h2 : u * 4294967296 + c - Q * Y < 18446744073709551616) :
    IntKind.u64.wrap (IntKind.u64.wrap (IntKind.u64.wrap ((u : Int) * 4294967296) + (c : Int)) - IntKind.u64.wrap ((Q : Int) * (Y : Int))) = ((u * 4294967296 + c - Q * Y : Nat) : Int) := by
  rw [← Int.natCast_mul]
  simp only [IntKind.wrap_u64]
  generalize Q * Y = p at *
  omega
end Go.Proofs.YtjalpocjgpgcfaaGreatDoor
set_option linter.unusedSimpArgs false
set_option linter.unusedVariables false
namespace Go.Proofs.YtjalpocjgpgcfaaGreatDoor
open Go Go.RowKit Nt

theorem below_drewN {B : Nat} {a w : World} (h : Below B a w) (n : Nat) : Below B a (w.drewN n) := ⟨h.os, h.tape, h.output, h.size, h.block⟩
@[irreducible] def rst (x y k : Nat) : Nat := x / W ^ k % y
theorem rst_def (x y k : Nat) : rst x y k = x / W ^ k % y := by unfold rst; rfl
/-- The quotient, from the digit k on. -/
def hiV (q k : Nat) : Nat := W ^ k * (q / W ^ k)
theorem hiV_put (q m : Nat) : put W (hiV q (m + 1)) m (dgt W q m) = hiV q m := by
  unfold hiV
  have h0 : dgt W (W ^ (m + 1) * (q / W ^ (m + 1))) m = 0 := by
    have := dgt_add_mul (b := W) W0 0 (q / W ^ (m + 1)) (i := m) (L := m + 1) (by omega)
    rw [Nat.zero_add] at this
    rw [this, dgt_def]; simp
  rw [put_new _ _ _ W0 h0, div_eq_dgt W0 q m, Nat.mul_add, Nat.pow_succ, Nat.mul_assoc, Nat.add_comm]
theorem hiV_zero (q : Nat) : hiV q 0 = q := by unfold hiV; rw [Nat.pow_zero, Nat.one_mul, Nat.div_one]
theorem hiV_top {q L : Nat} (h : q < W ^ L) : hiV q L = 0 := by unfold hiV; rw [Nat.div_eq_of_lt h, Nat.mul_zero]
end Go.Proofs.YtjalpocjgpgcfaaGreatDoor
set_option linter.unusedSimpArgs false
set_option linter.unusedVariables false
namespace Go.Proofs.YtjalpocjgpgcfaaGreatDoor
open Go Go.RowKit Nt

/-- The number, when k words of it are shifted. -/
@[irreducible] def shlV (x q r k : Nat) : Nat := x % W ^ k * 2 ^ r * W ^ q
theorem shlV_def (x q r k : Nat) : shlV x q r k = x % W ^ k * 2 ^ r * W ^ q := by unfold shlV; rfl
theorem shlV_zero (x q r : Nat) : shlV x q r 0 = 0 := by rw [shlV_def, mod_one, Nat.zero_mul, Nat.zero_mul]
theorem shl_last {x q r k : Nat} (hx : x < W ^ nd W x) (hk : k = 64 * q + r) : shlV x q r (nd W x) = x * 2 ^ k := by
  rw [shlV_def, Nat.mod_eq_of_lt hx, hk, Nat.pow_add, W_two, ← Nat.pow_mul, Nat.mul_assoc, Nat.mul_comm (2 ^ r)]
theorem int_pow2 (k : Nat) : (2 : Int) ^ k = ((2 ^ k : Nat) : Int) := by rw [Int.natCast_pow]; rfl
/-- The two words of a step. -/
theorem shl_words (x q r k : Nat) (hr : r < 64) : ∃ v V1 u : Nat,
    bits .or .u64 ((dgt W (shlV x q r k) (k + q) : Nat) : Int) (IntKind.u64.wrap ((dgt W x k : Nat) * 2 ^ r)) = (v : Int) ∧ v < 18446744073709551616 ∧
    put W (shlV x q r k) (k + q) v = V1 ∧ dgt W V1 (k + q + 1) = 0 ∧
    bits .or .u64 (0 : Int) (((dgt W x k : Nat) : Int) / 2 ^ (64 - r)) = (u : Int) ∧ u < 18446744073709551616 ∧ put W V1 (k + q + 1) u = shlV x q r (k + 1) := by
  obtain ⟨h1, h2, h3, h4, h5⟩ := shl_step (e := 64) x k q r (by omega)
  rw [← W_two] at h1 h2 h3 h4 h5
  rw [shlV_def, shlV_def]
  refine ⟨_, _, dgt W x k / 2 ^ (64 - r), ?_, Nat.lt_of_lt_of_eq h2 W_eq, rfl, h3, ?_, Nat.lt_of_lt_of_eq h4 W_eq, h5⟩
  · have e : IntKind.u64.wrap ((dgt W x k : Nat) * 2 ^ r) = ((dgt W x k * 2 ^ r % W : Nat) : Int) := by
      rw [IntKind.wrap_u64, int_pow2, ← Int.natCast_mul, W_eq, Int.natCast_emod]; rfl
    rw [e, bits_or_u64_nat _ _ (wd_lt _ _) (Nat.lt_of_lt_of_eq (Nat.mod_lt _ W0) W_eq), h1]
  · rw [int_pow2, ← Int.natCast_ediv]
    have := bits_or_u64_nat 0 (dgt W x k / 2 ^ (64 - r)) (by omega) (Nat.lt_of_lt_of_eq h4 W_eq)
    rw [Nat.zero_or] at this; exact this
theorem Shl_none (A : Option Addr) (c : Nat) (k : Int) (w : World) :
    Calls Tryz.prog 41 #[.slice A 0 c, .int .i64 k] w (NumPost 0 w) := by
  go_enter Tryz.func41, Tryz.ntmps41
  go_wp2
  go_ret
  have e : nd W 0 = 0 := nd_zero _
  have := NumPost.mk (n := 0) (w := w) (w' := w) (A := none) (c := 0) (by rw [e]; exact Nat.le_refl _) (by rw [e]; exact Row.none_) (Below.refl _ _)
  rw [e] at this; exact this
set_option maxHeartbeats 1000000 in
theorem Shl_some (A : Option Addr) (c x k q r B : Nat) (w : World) (hx0 : x ≠ 0) (hk : k = 64 * q + r) (hr64 : r < 64) (hL : nd W x + q ≤ 1000000000) (hr : Row w B A x (nd W x)) (hBs : B ≤ w.heap.size) :
    Calls Tryz.prog 41 #[.slice A (nd W x) c, .int .i64 (k : Nat)] w (NumPost (x * 2 ^ k) w) := by
  obtain ⟨i0, hi0, hz0, hz1, hz2⟩ := info_parts (P := Tryz.prog) (e := 104) (z := .int .u64 0) (size := 1) (bytes := 8) (by kernel_rfl)
  have HR := Lib.hid hr
  have HA := Lib.hid (lt_nd (n := x) W2)
  have hq : (k : Int) / 64 = (q : Int) := by omega
  have hm : (k : Int) % 64 = (r : Int) := by omega
  have hkb : (k : Int) ≤ 1000000000000 := by omega
  have hn0 : nd W x ≠ 0 := fun e => hx0 ((nd_eq_zero W2).1 e)
  have hz := eqz_false hn0
  have HK := Lib.hid hk
  clear hr hk
  go_enter Tryz.func41, Tryz.ntmps41
  go_wp2_with (at_make; go_loud (refine wpList_make_zero _ rfl (.tmp 21) (.tmp 21) _ rfl 104 i0 _ Tryz.underlying92 hi0 hz0 hz1 .i64 .i64 _ _ (nd W x + q + 1) rfl rfl (by omega) (by omega) (by rw [hz2]; omega) (by unfold maxLen; omega) ?_))
  rw [wcells_made]
  have HB0 := Lib.hid (Blk.new w 104 (wcells 0 (nd W x + q + 1)))
  have hbl : Below w.heap.size w (w.alloc (.cells (wcells 0 (nd W x + q + 1)) 104)) := (Below.refl _ _).alloc (Nat.le_refl _) _
  generalize w.alloc (.cells (wcells 0 (nd W x + q + 1)) 104) = w1 at *
  obtain ⟨g, hg⟩ : ∃ g, g = w.heap.size := ⟨_, rfl⟩
  rw [← hg] at HB0 hbl hBs ⊢
  have HG := Lib.hid hg
  clear hg
  go_loopw [25] (fun i wr => ∃ k : Nat, k ≤ nd W x ∧ i = .int .i64 k ∧ Hid (Blk wr g 104 (wcells (shlV x q r k) (nd W x + q + 1))) ∧ Below g w wr) (fun i _ => nd W x - (intOf i).toNat)
  case atStart => exact ⟨0, Nat.zero_le _, rfl, by rw [shlV_zero]; exact HB0, hbl⟩
  case round =>
    obtain ⟨k, hk, rfl, hblk, hb⟩ := hrel
    by_cases hlt : k < nd W x
    · obtain ⟨ga, rfl, hga, hca⟩ := HR.out.at_ hlt
      have hca2 := (hb.cell (p := ⟨ga, k, none⟩) (by show ga < g; omega)).trans hca
      have hfz := hblk.out.frozen (k + q)
      have hck := hblk.out.cell (k + q)
      rw [wcells_get _ _ _ (by omega)] at hck
      obtain ⟨v, V1, u, e1, hv, e2, e3, e4, hu, e5⟩ := shl_words x q r k hr64
      have HB1 := hblk.out.set_ (k + q) (.int .u64 (v : Nat))
      rw [wcells_set _ _ _ _ hv, e2] at HB1
      have hb1 := hb.setCell (p := ⟨g, k + q, none⟩) (Nat.le_refl _) (.int .u64 (v : Nat))
      have hfz1 := HB1.frozen (k + q + 1)
      have hck1 := HB1.cell (k + q + 1)
      rw [wcells_get _ _ _ (by omega), e3] at hck1
      have hck1' : (wr.setCell ⟨g, k + q, none⟩ (.int .u64 (v : Nat))).cell? ⟨g, k + q + 1, none⟩ = some (.int .u64 0) := hck1
      have HB2 := Lib.hid ((HB1.drew.set_ (k + q + 1) (.int .u64 (u : Nat))).drew)
      rw [wcells_set _ _ _ _ hu, e5] at HB2
      have hb2 := (hb1.drew.setCell (p := ⟨g, k + q + 1, none⟩) (Nat.le_refl _) (.int .u64 (u : Nat))).drew
      have h64 : (64 : Int) - (r : Int) = ((64 - r : Nat) : Int) := by omega
      clear hca hck1 HB1 hb1 hv e2 e3 hu e5
      go_wp2
      go_region
      generalize wr.setCell ⟨g, k + q, none⟩ (.int .u64 (v : Nat)) = w2 at *
      go_wp2
      go_region
      go_wp2
      go_roundw
      case rel => exact ⟨k + 1, by omega, by go_num, HB2, hb2⟩
      case measure => simp [intOf]; omega
    · obtain rfl : k = nd W x := by omega
      have HB1 := hblk.out
      rw [shl_last HA.out HK.out] at HB1
      have HB1' := Lib.hid HB1
      have hs : x * 2 ^ (64 * q + r) < W ^ (nd W x + q + 1) := by
        have h1 := HA.out
        rw [Nat.add_assoc (nd W x), Nat.pow_add W]
        have h2 : (2 : Nat) ^ (64 * q + r) ≤ W ^ (q + 1) := by rw [W_two, ← Nat.pow_mul]; exact Nat.pow_le_pow_right (by omega) (by omega)
        refine Nat.lt_of_lt_of_le ((Nat.mul_lt_mul_right (Nat.two_pow_pos _)).2 h1) (Nat.mul_le_mul_left _ h2)
      rw [← HK.out] at hs
      have HS := Lib.hid hs
      clear HB1 hs
      go_wp2_with fail
      refine (Cut_c (some ⟨g, 0, none⟩) (nd W x + q + 1) (nd W x + q + 1) _ (g + 1) _ HS.out (Nat.le_refl _) (by omega) (Row.of_blk HB1'.out (by omega))).mono ?_
      rintro e w' ⟨rfl, rfl⟩
      go_wp2
      go_ret
      have hnd := nd_le W2 HS.out
      exact NumPost.mk hnd ((Row.of_blk HB1'.out HB1'.out.lt).less hnd) (by rw [← HG.out]; exact hb)
theorem Shl_c (A : Option Addr) (c x k B : Nat) (w : World) (hL : nd W x + k / 64 ≤ 1000000000) (hr : Row w B A x (nd W x)) (hBs : B ≤ w.heap.size) :
    Calls Tryz.prog 41 #[.slice A (nd W x) c, .int .i64 (k : Nat)] w (NumPost (x * 2 ^ k) w) := by
  by_cases h : x = 0
  · subst h
    have e : nd W 0 = 0 := nd_zero _
    rw [e, Nat.zero_mul]
    exact Shl_none A c _ w
  · exact Shl_some A c x k (k / 64) (k % 64) B w h (by omega) (by omega) hL hr hBs
/-- The words of a number that is shifted to the right. -/
theorem shr_words (x q r k : Nat) (hr : r < 64) : ∃ v u : Nat,
    ((dgt W x (k + q) : Nat) : Int) / 2 ^ r = (v : Int) ∧ v < 18446744073709551616 ∧
    bits .or .u64 (v : Int) (IntKind.u64.wrap (((dgt W x (k + q + 1) : Nat) : Int) * 2 ^ (64 - r))) = (u : Int) ∧ u = dgt W (x / 2 ^ (64 * q + r)) k ∧
    (dgt W x (k + q + 1) = 0 → v = dgt W (x / 2 ^ (64 * q + r)) k) := by
  have h := dgt_shr (e := 64) (x / W ^ q) r k (by omega)
  rw [← W_two] at h
  rw [dgt_skip, dgt_skip, show k + 1 + q = k + q + 1 by omega] at h
  have e : x / W ^ q / 2 ^ r = x / 2 ^ (64 * q + r) := by rw [W_two, ← Nat.pow_mul, Nat.div_div_eq_div_mul, ← Nat.pow_add]
  rw [e] at h
  have hv : dgt W x (k + q) / 2 ^ r < 2 ^ (64 - r) := by
    rw [Nat.div_lt_iff_lt_mul (Nat.two_pow_pos r), ← Nat.pow_add, show 64 - r + r = 64 by omega, ← W_two]; exact dgt_lt W0 _ _
  have hv64 : dgt W x (k + q) / 2 ^ r < 18446744073709551616 := Nat.lt_of_le_of_lt (Nat.div_le_self _ _) (wd_lt _ _)
  have hlow : dgt W x (k + q + 1) * 2 ^ (64 - r) % W = 2 ^ (64 - r) * (dgt W x (k + q + 1) % 2 ^ r) := by
    have hW : W = 2 ^ (64 - r) * 2 ^ r := by rw [W_two, ← Nat.pow_add]; congr 1; omega
    generalize dgt W x (k + q + 1) = D
    rw [hW, Nat.mul_comm, Nat.mul_mod_mul_left]
  refine ⟨dgt W x (k + q) / 2 ^ r, dgt W (x / 2 ^ (64 * q + r)) k, ?_, hv64, ?_, rfl, ?_⟩
  · rw [int_pow2, ← Int.natCast_ediv]
  · have e2 : IntKind.u64.wrap (((dgt W x (k + q + 1) : Nat) : Int) * 2 ^ (64 - r)) = ((dgt W x (k + q + 1) * 2 ^ (64 - r) % W : Nat) : Int) := by
      rw [IntKind.wrap_u64, int_pow2, ← Int.natCast_mul, W_eq, Int.natCast_emod]; rfl
    rw [e2, bits_or_u64_nat _ _ hv64 (Nat.lt_of_lt_of_eq (Nat.mod_lt _ W0) W_eq), h, hlow, or_add _ _ _ hv]
  · intro hz; rw [h, hz, Nat.zero_mul, Nat.zero_mod, Nat.add_zero]
theorem Shr_far (A : Option Addr) (c x k L : Nat) (w : World) (h : L ≤ k / 64) (hk : k ≤ 1000000000000) :
    Calls Tryz.prog 78 #[.slice A L c, .int .i64 (k : Nat)] w fun e w' => e = .returned (.slice none 0 0) ∧ w = w' := by
  obtain ⟨q, hq⟩ : ∃ q : Nat, (k : Int) / 64 = (q : Int) := ⟨k / 64, by omega⟩
  have h1 : L ≤ q := by omega
  go_enter Tryz.func78, Tryz.ntmps78
  go_wp2
  go_ret
  exact ⟨rfl, rfl⟩
set_option maxHeartbeats 1000000 in
theorem Shr_near (A : Option Addr) (c x k q r B : Nat) (w : World) (hk : k = 64 * q + r) (hr64 : r < 64) (hq' : q < nd W x) (hL : nd W x ≤ 1000000000) (hr : Row w B A x (nd W x)) (hBs : B ≤ w.heap.size) :
    Calls Tryz.prog 78 #[.slice A (nd W x) c, .int .i64 (k : Nat)] w (NumPost (x / 2 ^ k) w) := by
  obtain ⟨i0, hi0, hz0, hz1, hz2⟩ := info_parts (P := Tryz.prog) (e := 104) (z := .int .u64 0) (size := 1) (bytes := 8) (by kernel_rfl)
  obtain ⟨L, hLe⟩ : ∃ L, nd W x = q + L := ⟨nd W x - q, by omega⟩
  have HR := Lib.hid hr
  have HA := lt_nd (n := x) W2
  have hs : x / 2 ^ (64 * q + r) < W ^ L := by
    rw [Nat.pow_add, ← Nat.div_div_eq_div_mul, Nat.pow_mul, ← W_two]
    refine Nat.lt_of_le_of_lt (Nat.div_le_self _ _) ?_
    rw [Nat.div_lt_iff_lt_mul (Nat.pow_pos W0), ← Nat.pow_add, Nat.add_comm L, ← hLe]; exact HA
  have HS := Lib.hid hs
  have HND := Lib.hid (fun (h : nd W x ≤ q + L) => h)
  have hq : (k : Int) / 64 = (q : Int) := by omega
  have hm : (k : Int) % 64 = (r : Int) := by omega
  have hkb : (k : Int) ≤ 1000000000000 := by omega
  have HZ : Hid (∀ j, q + L ≤ j → dgt W x j = 0) := Lib.hid (fun j hj => dgt_big W2 (by omega))
  have HK := Lib.hid hk
  obtain ⟨M, hM⟩ : ∃ M, M = nd W x := ⟨_, rfl⟩
  rw [← hM] at HR hL ⊢
  have hql : ¬ M ≤ q := by omega
  have hqb : (q : Int) ≤ 1000000000 := by omega
  have hsub : (M : Int) - (q : Int) = (L : Int) := by omega
  have HML : Hid (M = q + L) := Lib.hid (by omega)
  have hL2 : L ≤ M := by omega

  clear hr hk hs HA hLe hq' hM HND
  go_enter Tryz.func78, Tryz.ntmps78
  go_wp2_with (at_make; go_loud (refine wpList_make_zero _ rfl (.tmp 20) (.tmp 20) _ rfl 104 i0 _ Tryz.underlying92 hi0 hz0 hz1 .i64 .i64 _ _ L rfl rfl rfl rfl (by rw [hz2]; omega) (by unfold maxLen; omega) ?_))
  rw [wcells_made]
  have HB0 := Lib.hid (Blk.new w 104 (wcells 0 L))
  have hbl : Below w.heap.size w (w.alloc (.cells (wcells 0 L) 104)) := (Below.refl _ _).alloc (Nat.le_refl _) _
  generalize w.alloc (.cells (wcells 0 L) 104) = w1 at *
  obtain ⟨g, hg⟩ : ∃ g, g = w.heap.size := ⟨_, rfl⟩
  rw [← hg] at HB0 hbl hBs ⊢
  have HG := Lib.hid hg
  clear hg
  go_loopw [24] (fun i wr => ∃ k : Nat, k ≤ L ∧ i = .int .i64 k ∧ Hid (Blk wr g 104 (wcells (x / 2 ^ (64 * q + r) % W ^ k) L)) ∧ Below g w wr) (fun i _ => L - (intOf i).toNat)
  case atStart => exact ⟨0, Nat.zero_le _, rfl, by rw [mod_one]; exact HB0, hbl⟩
  case round =>
    obtain ⟨k, hk, rfl, hblk, hb⟩ := hrel
    by_cases hlt : k < L
    · have hMq : k + q < M := by have := HML.out; omega
      obtain ⟨ga, rfl, hga, hca⟩ := HR.out.at_ hMq
      have hca2 := (hb.cell (p := ⟨ga, k + q, none⟩) (by show ga < g; omega)).trans hca
      have hfz := hblk.out.frozen k
      have hck := hblk.out.cell k
      rw [wcells_get _ _ _ (by omega)] at hck
      obtain ⟨v, u, e1, hv, e2, e3, e4⟩ := shr_words x q r k hr64
      have hv' := Lib.hid hv
      have HE3 := Lib.hid e3
      have HE4 := Lib.hid e4
      have hhb := hblk.out
      have h64 : (64 : Int) - (r : Int) = ((64 - r : Nat) : Int) := by omega
      have hLi : (M : Int) ≤ 1000000000 := by omega
      have hkq : (k : Int) + (q : Int) + 1 ≤ 1000000000 := by omega
      have hkq2 : k + q + 1 ≤ 1000000000 := by omega
      have HLh := Lib.hid hL
      clear hca e3 e4 hv hL
      by_cases hlt2 : k + q + 1 < M
      · obtain ⟨gb, egb, hgb, hcb⟩ := HR.out.at_ hlt2
        obtain rfl : ga = gb := congrArg Addr.block (Option.some.inj egb)
        have hb1 := hb.setCell (p := ⟨g, k, none⟩) (Nat.le_refl _) (.int .u64 (v : Nat))
        have hcb2 := (hb1.cell (p := ⟨ga, k + q + 1, none⟩) (by show ga < g; omega)).trans hcb
        have HB1 := hhb.set_ k (.int .u64 (v : Nat))
        have hfz1 := HB1.frozen k
        have hck1 : (wr.setCell ⟨g, k, none⟩ (.int .u64 (v : Nat))).cell? ⟨g, k, none⟩ = some (.int .u64 (v : Nat)) := by
          rw [HB1.cell, wcells_set _ _ _ _ hv'.out, wcells_get _ _ _ hlt, dgt_put W2 _ _ _ _ (by rw [W_eq]; exact hv'.out), if_pos rfl]
        have HB2 := Lib.hid ((HB1.set_ k (.int .u64 (u : Nat))).drew)
        rw [Array.setIfInBounds_setIfInBounds, wcells_set _ _ _ _ (by rw [HE3.out]; exact wd_lt _ _), HE3.out, put_sum] at HB2
        have hb2 := (hb1.setCell (p := ⟨g, k, none⟩) (Nat.le_refl _) (.int .u64 (u : Nat))).drew
        rw [← HE3.out] at HB2
        have hT : decide ((k : Int) + (q : Int) + 1 < (M : Int)) = true := decide_eq_true (by omega)
        have HLT := Lib.hid hlt
        clear hcb HB1 hb1 hhb
        go_upto_if 44 with fail
        have HA1 := Lib.hid hlt2
        have HA3 := Lib.hid hkq2
        clear hlt2 hkq2 hlt
        go_wp2
        have hlt := HLT.out
        have hlt2 := HA1.out
        go_region
        go_wp2
        go_roundw
        case rel => exact ⟨k + 1, by omega, by go_num, by rw [HE3.out] at *; exact HB2, hb2⟩
        case measure => simp [intOf]; omega
      · have hz0' : v = dgt W (x / 2 ^ (64 * q + r)) k := HE4.out (HZ.out _ (by have := HML.out; omega))
        have HZ' := Lib.hid hz0'
        have HB1 := Lib.hid (hhb.set_ k (.int .u64 (v : Nat)))
        rw [wcells_set _ _ _ _ hv'.out, hz0', put_sum] at HB1
        have hb1 := hb.setCell (p := ⟨g, k, none⟩) (Nat.le_refl _) (.int .u64 (v : Nat))
        have hT : decide ((k : Int) + (q : Int) + 1 < (M : Int)) = false := decide_eq_false (by omega)
        clear hz0' hhb
        go_upto_if 44 with fail
        have HA3 := Lib.hid hkq2
        have HA1 := Lib.hid hlt2
        clear hlt2 hkq2
        go_wp2
        go_roundw
        case rel => exact ⟨k + 1, by omega, by go_num, by rw [HZ'.out]; exact HB1, hb1⟩
        case measure => simp [intOf]; omega
    · obtain rfl : k = L := by omega
      have HB1 := hblk.out
      rw [Nat.mod_eq_of_lt HS.out, ← HK.out] at HB1
      have HB1' := Lib.hid HB1
      have HS2 := HS
      rw [← HK.out] at HS2
      clear HB1
      go_wp2_with fail
      refine (Cut_c (some ⟨g, 0, none⟩) k k _ (g + 1) _ HS2.out (Nat.le_refl _) (by omega) (Row.of_blk HB1'.out (by omega))).mono ?_
      rintro e w' ⟨rfl, rfl⟩
      go_wp2
      go_ret
      have hnd := nd_le W2 HS2.out
      exact NumPost.mk hnd ((Row.of_blk HB1'.out HB1'.out.lt).less hnd) (by rw [← HG.out]; exact hb)
theorem Shr_c (A : Option Addr) (c x k B : Nat) (w : World) (hk : k ≤ 1000000000000) (hL : nd W x ≤ 1000000000) (hr : Row w B A x (nd W x)) (hBs : B ≤ w.heap.size) :
    Calls Tryz.prog 78 #[.slice A (nd W x) c, .int .i64 (k : Nat)] w (NumPost (x / 2 ^ k) w) := by
  by_cases h : k / 64 < nd W x
  · exact Shr_near A c x k (k / 64) (k % 64) B w (by omega) (by omega) h hL hr hBs
  · have h0 : x / 2 ^ k = 0 := by
      apply Nat.div_eq_of_lt
      refine Nat.lt_of_lt_of_le (lt_nd (n := x) W2) ?_
      generalize nd W x = m at *
      rw [W_two, ← Nat.pow_mul]; exact Nat.pow_le_pow_right (by omega) (by omega)
    refine (Shr_far A c x k (nd W x) w (by omega) hk).mono ?_
    rintro e w' ⟨rfl, rfl⟩
    rw [h0]
    have e : nd W 0 = 0 := nd_zero _
    have := NumPost.mk (n := 0) (w := w) (w' := w) (A := none) (c := 0) (by rw [e]; exact Nat.le_refl _) (by rw [e]; exact Row.none_) (Below.refl _ _)
    rw [e] at this; exact this
end Go.Proofs.YtjalpocjgpgcfaaGreatDoor
set_option linter.unusedSimpArgs false
set_option linter.unusedVariables false
namespace Go.Proofs.YtjalpocjgpgcfaaGreatDoor
open Go Go.RowKit Nt

/-- One step of a row: the product's words, two sums, the word and what is carried. -/
theorem row_words (D v t c : Nat) (hD : D < 18446744073709551616) (hv : v < 18446744073709551616) (ht : t < 18446744073709551616) (hc : c < 18446744073709551616) : ∃ hi lo lo2 c1 hi2 nw c2 cy : Nat,
    (∀ w, Calls Tryz.prog 141 #[.int .u64 (D : Nat), .int .u64 (v : Nat)] w fun e w' => e = .returned (.tuple #[.int .u64 (hi : Nat), .int .u64 (lo : Nat)]) ∧ w = w') ∧
    (∀ w, (callFunc 79 #[.int .u64 (lo : Nat), .int .u64 (t : Nat), .int .u64 0]).run Tryz.prog w = .ok (.value (.tuple #[.int .u64 (lo2 : Nat), .int .u64 (c1 : Nat)])) w) ∧
    IntKind.u64.wrap ((hi : Int) + (c1 : Int)) = (hi2 : Int) ∧
    (∀ w, (callFunc 79 #[.int .u64 (lo2 : Nat), .int .u64 (c : Nat), .int .u64 0]).run Tryz.prog w = .ok (.value (.tuple #[.int .u64 (nw : Nat), .int .u64 (c2 : Nat)])) w) ∧
    IntKind.u64.wrap ((hi2 : Int) + (c2 : Int)) = (cy : Int) ∧
    nw < 18446744073709551616 ∧ cy < 18446744073709551616 ∧ nw + W * cy = D * v + t + c := by
  have hp := prod_lt hD hv
  have h1 := Tryz.bits_Add64 (D * v % 18446744073709551616) t 0 (by omega)
  have h2 := Tryz.bits_Add64 ((D * v % 18446744073709551616 + t + 0) % 18446744073709551616) c 0 (by omega)
  refine ⟨D * v / 18446744073709551616, D * v % 18446744073709551616, (D * v % 18446744073709551616 + t + 0) % 18446744073709551616, (D * v % 18446744073709551616 + t + 0) / 18446744073709551616,
    D * v / 18446744073709551616 + (D * v % 18446744073709551616 + t + 0) / 18446744073709551616, ((D * v % 18446744073709551616 + t + 0) % 18446744073709551616 + c + 0) % 18446744073709551616, ((D * v % 18446744073709551616 + t + 0) % 18446744073709551616 + c + 0) / 18446744073709551616,
    D * v / 18446744073709551616 + (D * v % 18446744073709551616 + t + 0) / 18446744073709551616 + ((D * v % 18446744073709551616 + t + 0) % 18446744073709551616 + c + 0) / 18446744073709551616, ?_, h1, ?_, h2, ?_, ?_, ?_, ?_⟩
  · intro w
    refine (Tryz.bits_Mul64 D v hD hv w).mono ?_
    rintro e w' ⟨rfl, rfl⟩; exact ⟨rfl, rfl⟩
  · refine wadd_nat rfl ?_
    generalize D * v = p at *; omega
  · refine wadd_nat rfl ?_
    generalize D * v = p at *; omega
  · exact Nat.mod_lt _ (by omega)
  · generalize D * v = p at *; omega
  · rw [W_eq]; generalize D * v = p at *; omega
/-- A row, when j words of it stand. -/
def RowOk (V D b k j Z c : Nat) : Prop := Z + W ^ (k + j) * c = V + W ^ k * (D * (b % W ^ j)) ∧ Z < W ^ (k + nd W b) ∧ c < 18446744073709551616
theorem rowok_start {V b k D : Nat} (hV : V < W ^ (k + nd W b)) : RowOk V D b k 0 V 0 := by
  unfold RowOk
  refine ⟨?_, hV, by omega⟩
  rw [Nat.pow_zero, Nat.mod_one, Nat.mul_zero, Nat.mul_zero, Nat.mul_zero]
theorem rowok_step {V D b k j Z c nw cy : Nat} (h : RowOk V D b k j Z c) (hj : j < nd W b) (hn : nw < 18446744073709551616) (hc : cy < 18446744073709551616)
    (he : nw + W * cy = D * dgt W b j + dgt W Z (k + j) + c) : RowOk V D b k (j + 1) (put W Z (k + j) nw) cy := by
  obtain ⟨h1, h2, _⟩ := h
  refine ⟨?_, put_lt W2 (by rw [W_eq]; exact hn) h2 (by omega), hc⟩
  have hp := put_eq Z (k + j) nw W0
  rw [mod_succ, Nat.mul_add D, Nat.mul_add (W ^ k), ← Nat.add_assoc V, ← h1]
  rw [show k + (j + 1) = k + j + 1 by omega, Nat.pow_succ, Nat.mul_assoc]
  have e1 : W ^ k * (D * (W ^ j * dgt W b j)) = W ^ (k + j) * (D * dgt W b j) := by
    rw [Nat.pow_add, Nat.mul_left_comm D, Nat.mul_assoc]
  rw [e1]
  have e2 : W ^ (k + j) * nw + W ^ (k + j) * (W * cy) = W ^ (k + j) * (D * dgt W b j) + W ^ (k + j) * dgt W Z (k + j) + W ^ (k + j) * c := by
    rw [← Nat.mul_add, he, Nat.mul_add, Nat.mul_add]
  omega
theorem rowok_end {a b k Z c : Nat} (h : RowOk (a % W ^ k * b) (dgt W a k) b k (nd W b) Z c) : dgt W Z (k + nd W b) = 0 ∧ put W Z (k + nd W b) c = a % W ^ (k + 1) * b := by
  obtain ⟨h1, h2, _⟩ := h
  have hz := dgt_of_lt W2 h2 (Nat.le_refl _)
  refine ⟨hz, ?_⟩
  rw [put_new _ _ _ W0 hz, h1, Nat.mod_eq_of_lt (lt_nd W2), mod_succ, Nat.add_mul, Nat.mul_assoc]
theorem row_lt {a b k : Nat} : a % W ^ k * b < W ^ (k + nd W b) := by
  rw [Nat.pow_add]
  have h1 := mod_lt_pow W0 a k
  have h2 := lt_nd (n := b) W2
  rcases Nat.eq_zero_or_pos b with h | h
  · subst h; rw [Nat.mul_zero]; exact Nat.mul_pos (Nat.pow_pos W0) (Nat.pow_pos W0)
  · exact Nat.lt_of_lt_of_le ((Nat.mul_lt_mul_right h).2 h1) (Nat.mul_le_mul_left _ (by omega))
/-- A row cut out of words. -/
theorem row_slice (g k n lb : Nat) (h : k + lb ≤ n) : ∃ A : Option Addr, (lb ≠ 0 → A = some ⟨g, k, none⟩) ∧ ∀ w, (Instr.sliceAt 92 (.slice (some ⟨g, 0, none⟩) n n) (some (.int .i64 k)) (some (.int .i64 ((k : Int) + (lb : Int)))) (some (.int .i64 ((k : Int) + (lb : Int))))).run Tryz.prog w = .ok (.slice A lb lb) w := by
  refine ⟨if k + lb = k then some ⟨g, 0, none⟩ else some ⟨g, k, none⟩, fun h0 => by rw [if_neg (by omega)], fun w => ?_⟩
  have e : (((k : Int) + (lb : Int))).toNat = k + lb := by omega
  have ht : Tryz.prog.underlying 92 = some (.slice (Tryz.prog.elem 92)) := by kernel_rfl
  rw [run_sliceAt_slice (h := ht), run_slice_lhm w 92 _ _ _ ht .i64 .i64 .i64 _ _ _ (by omega) (by omega) (by omega) (by omega), e]
  have he : Tryz.prog.elem 92 = 104 := by kernel_rfl
  rw [he, Tryz.sizeOf104 w]
  simp only [Result.andThen, sliced, Int.toNat_natCast]
  rw [show k + lb - k = lb by omega]
  by_cases h1 : k + lb = k
  · rw [if_pos h1, if_pos h1]
  · rw [if_neg h1, if_neg h1, Nat.mul_one]
    simp only [Option.map]
    rw [add_plain0]
set_option maxRecDepth 100000 in
set_option maxHeartbeats 2000000 in
theorem Mul_c (A A' : Option Addr) (c c' a b B : Nat) (w : World) (hL : nd W a + nd W b ≤ 1000000000) (hr : Row w B A a (nd W a)) (hr' : Row w B A' b (nd W b)) (hBs : B ≤ w.heap.size) :
    Calls Tryz.prog 142 #[.slice A (nd W a) c, .slice A' (nd W b) c'] w (NumPost (a * b) w) := by
  obtain ⟨i0, hi0, hz0, hz1, hz2⟩ := info_parts (P := Tryz.prog) (e := 104) (z := .int .u64 0) (size := 1) (bytes := 8) (by kernel_rfl)
  have HR := Lib.hid hr
  have HR' := Lib.hid hr'
  have HA := Lib.hid (lt_nd (n := a) W2)
  obtain ⟨la, hla⟩ : ∃ la, la = nd W a := ⟨_, rfl⟩
  obtain ⟨lb, hlb⟩ : ∃ lb, lb = nd W b := ⟨_, rfl⟩
  rw [← hla] at HA
  rw [← hla, ← hlb] at hL ⊢
  rw [← hla] at HR
  rw [← hlb] at HR'
  have HLA := Lib.hid hla
  have HLB := Lib.hid hlb
  have hLi : (la : Int) + (lb : Int) ≤ 1000000000 := by omega
  have hlai : (la : Int) ≤ 1000000000 := by omega
  have hlbi : (lb : Int) ≤ 1000000000 := by omega
  clear hr hr' hla hlb
  go_enter Tryz.func142, Tryz.ntmps142
  go_wp2_with (at_make; go_loud (refine wpList_make_zero _ rfl (.tmp 19) (.tmp 19) _ rfl 104 i0 _ Tryz.underlying92 hi0 hz0 hz1 .i64 .i64 _ _ (la + lb) rfl rfl (by omega) (by omega) (by rw [hz2]; omega) (by unfold maxLen; omega) ?_))
  rw [wcells_made]
  have HB0 := Lib.hid (Blk.new w 104 (wcells 0 (la + lb)))
  have hbl : Below w.heap.size w (w.alloc (.cells (wcells 0 (la + lb)) 104)) := (Below.refl _ _).alloc (Nat.le_refl _) _
  generalize w.alloc (.cells (wcells 0 (la + lb)) 104) = w1 at *
  obtain ⟨g, hg⟩ : ∃ g, g = w.heap.size := ⟨_, rfl⟩
  rw [← hg] at HB0 hbl hBs ⊢
  have HG := Lib.hid hg
  clear hg
  go_loopw [23] (fun i wr => ∃ k : Nat, k ≤ la ∧ i = .int .i64 k ∧ Hid (Blk wr g 104 (wcells (a % W ^ k * b) (la + lb))) ∧ Below g w wr) (fun i _ => la - (intOf i).toNat)
  case atStart => exact ⟨0, Nat.zero_le _, rfl, by rw [mod_one, Nat.zero_mul]; exact HB0, hbl⟩
  case round =>
    obtain ⟨k, hk, rfl, hblk, hb⟩ := hrel
    obtain ⟨wo, rfl⟩ : ∃ wo : World, wo = wr := ⟨_, rfl⟩
    by_cases hlt : k < la
    · obtain ⟨ga, rfl, hga, hca⟩ := HR.out.at_ hlt
      have hca2 := (hb.cell (p := ⟨ga, k, none⟩) (by show ga < g; omega)).trans hca
      clear hca
      have hkl : (k : Int) + (lb : Int) ≤ 1000000000 := by omega
      by_cases hz : dgt W a k = 0
      · have hz' := eqz_true hz
        have HB1 := hblk
        rw [show a % W ^ k * b = a % W ^ (k + 1) * b by rw [mod_succ, hz, Nat.mul_zero, Nat.add_zero]] at HB1
        clear hz
        go_wp2
        go_roundw
        case rel => exact ⟨k + 1, by omega, by go_num, HB1, hb⟩
        case measure => simp [intOf]; omega
      · have hz' := eqz_false hz
        have HZ := Lib.hid hz
        have hkk : k + lb ≤ la + lb := by omega
        have HKK := Lib.hid hkk
        obtain ⟨Ar, hAr, hsl⟩ := row_slice g k (la + lb) lb hkk
        have HAr := Lib.hid hAr
        clear hz hkk hAr
        go_wp2
        have hinit := Lib.hid (rowok_start (D := dgt W a k) (row_lt (a := a) (b := b) (k := k)))
        go_loopw [8, 43] (fun cy i wr => ∃ j Z cc : Nat, j ≤ lb ∧ i = .int .i64 j ∧ cy = .int .u64 cc ∧ Hid (RowOk (a % W ^ k * b) (dgt W a k) b k j Z cc) ∧ Hid (Blk wr g 104 (wcells Z (la + lb))) ∧ Below g w wr) (fun _ i _ => lb - (intOf i).toNat)
        case atStart => exact ⟨0, _, 0, Nat.zero_le _, rfl, rfl, hinit, hblk, hb⟩
        case round =>
          obtain ⟨j, Z, cc, hj, rfl, rfl, hok, hblk2, hb2⟩ := hrel
          by_cases hltj : j < lb
          · obtain rfl : Ar = some ⟨g, k, none⟩ := HAr.out (by omega)
            obtain ⟨gb, rfl, hgb, hcb⟩ := HR'.out.at_ hltj
            have hcb2 := (hb2.cell (p := ⟨gb, j, none⟩) (by show gb < g; omega)).trans hcb
            have hfz := hblk2.out.frozen (k + j)
            have hck := hblk2.out.cell (k + j)
            rw [wcells_get _ _ _ (by have := HKK.out; omega)] at hck
            obtain ⟨hi, lo, lo2, c1, hi2, nw, c2, cy, hmul, ha1, hw1, ha2, hw2, hnw, hcy, heq⟩ := row_words (dgt W a k) (dgt W b j) (dgt W Z (k + j)) cc (wd_lt _ _) (wd_lt _ _) (wd_lt _ _) hok.out.2.2
            have HOK := Lib.hid (rowok_step hok.out (by rw [← HLB.out]; exact hltj) hnw hcy heq)
            have HB1 := Lib.hid (hblk2.out.set_ (k + j) (.int .u64 (nw : Nat)))
            rw [wcells_set _ _ _ _ hnw] at HB1
            have hb1 := hb2.setCell (p := ⟨g, k + j, none⟩) (Nat.le_refl _) (.int .u64 (nw : Nat))
            have HM := Lib.hid hmul
            clear hmul hcb heq hnw hcy
            go_wp2_with (first | simp only [ha1] | simp only [ha2] | (go_at_call 141; refine (HM.out _).mono ?_; rintro e w' ⟨rfl, rfl⟩))
            go_roundw
            case rel => exact ⟨j + 1, _, cy, by omega, by go_num, rfl, HOK, HB1, hb1⟩
            case measure => simp [intOf]; omega
          · obtain rfl : j = lb := by omega
            have hr2 := hok.out
            have e1 := rowok_end (a := a) (b := b) (k := k) (Z := Z) (c := cc) (by rw [← HLB.out]; exact hr2)
            rw [← HLB.out] at e1
            have hfz := hblk2.out.frozen (k + j)
            have hck := hblk2.out.cell (k + j)
            rw [wcells_get _ _ _ (by omega)] at hck
            have HB1 := Lib.hid (hblk2.out.set_ (k + j) (.int .u64 (cc : Nat)))
            rw [wcells_set _ _ _ _ hr2.2.2, e1.2] at HB1
            have hb1 := hb2.setCell (p := ⟨g, k + j, none⟩) (Nat.le_refl _) (.int .u64 (cc : Nat))
            have hkj : (k : Int) + (j : Int) < (la : Int) + (j : Int) := by omega
            have hkj2 : k + j < la + j := by omega
            have HLh := Lib.hid hL
            have hk1 : (k : Int) + 1 ≤ 1000000000 := by omega
            have hk2 : (k : Int) ≤ 1000000000 := by omega
            clear hr2 e1 hj hltj hL hLi hlai hlbi hsl
            go_wp2
            go_roundw
            case rel => exact ⟨k + 1, by omega, by go_num, HB1, hb1⟩
            case measure => simp [intOf]; omega
    · obtain rfl : k = la := by omega
      have HB1 := hblk.out
      rw [Nat.mod_eq_of_lt HA.out] at HB1
      have HB1' := Lib.hid HB1
      have hs : a * b < W ^ (k + lb) := by
        have := row_lt (a := a) (b := b) (k := k)
        rw [Nat.mod_eq_of_lt HA.out, ← HLB.out] at this; exact this
      have HS := Lib.hid hs
      clear HB1 hs
      go_wp2_with fail
      refine (Cut_c (some ⟨g, 0, none⟩) (k + lb) (k + lb) _ (g + 1) _ HS.out (Nat.le_refl _) (by omega) (Row.of_blk HB1'.out (by omega))).mono ?_
      rintro e w' ⟨rfl, rfl⟩
      go_wp2
      go_ret
      have hnd := nd_le W2 HS.out
      exact NumPost.mk hnd ((Row.of_blk HB1'.out HB1'.out.lt).less hnd) (by rw [← HG.out]; exact hb)
end Go.Proofs.YtjalpocjgpgcfaaGreatDoor
set_option linter.unusedSimpArgs false
set_option linter.unusedVariables false
namespace Go.Proofs.YtjalpocjgpgcfaaGreatDoor
open Go Go.RowKit Nt

/-- The strings that stand at A. -/
def Strs (w : World) (A : Option Addr) (ss : List ByteArray) : Prop := 0 < ss.length → ∃ ad, A = some ad ∧ ∀ j (h : j < ss.length), w.cell? (ad.add j) = some (.string ss[j])
theorem Strs.at_ {w : World} {A : Option Addr} {ss : List ByteArray} (h : Strs w A ss) {k : Nat} (hk : k < ss.length) : ∃ ad, A = some ad ∧ w.cell? (ad.add k) = some (.string ss[k]) := by
  obtain ⟨ad, e, hc⟩ := h (by omega); exact ⟨ad, e, hc k hk⟩
theorem block_of_add' (a : Addr) (n : Nat) : (a.add n).block = a.block := by unfold Addr.add; split <;> rfl
instance (s : ByteArray) : Decidable (May s) := inferInstanceAs (Decidable (_ ∧ _))
@[irreducible] def mayE (ss : List ByteArray) : Int := if ∀ s ∈ ss, May s then 0 else 2
theorem mayE_ok {ss : List ByteArray} (h : ∀ s ∈ ss, May s) : mayE ss = 0 := by unfold mayE; rw [if_pos h]
theorem mayE_no {ss : List ByteArray} {s : ByteArray} (h : s ∈ ss) (hs : ¬ May s) : mayE ss = 2 := by unfold mayE; rw [if_neg (fun c => hs (c s h))]
theorem u8_eqz (x : UInt8) (h : x.toNat = 0) : ((x.toNat : Int) == 0) = true := eqz_true h
theorem u8_nez (x : UInt8) (h : x.toNat ≠ 0) : ((x.toNat : Int) == 0) = false := eqz_false h
set_option maxRecDepth 100000 in
set_option maxHeartbeats 400000 in
theorem all_c (A : Option Addr) (c : Nat) (ss : List ByteArray) (w : World) (hl : ss.length ≤ 9223372036854775807) (h : Strs w A ss) :
    Calls Tryz.prog 85 #[.slice A ss.length c] w fun e w' => e = .returned (.int .i64 (mayE ss)) ∧ w = w' := by
  have HS := Lib.hid h
  clear h
  go_enter Tryz.func85, Tryz.ntmps85
  go_wp2
  go_loop [7] (fun i => ∃ k : Nat, k ≤ ss.length ∧ i = .int .i64 k ∧ Hid (∀ s ∈ ss.take k, May s)) (fun i => ss.length - (intOf i).toNat)
  case atStart => exact ⟨0, Nat.zero_le _, rfl, Lib.hid (by simp)⟩
  case round =>
    obtain ⟨k, hk, rfl, hm⟩ := hrel
    by_cases hlt : k < ss.length
    · obtain ⟨ad, rfl, hc⟩ := HS.out.at_ hlt
      have hmem : ss[k] ∈ ss := List.getElem_mem hlt
      have hnext : May ss[k] → ∀ s ∈ ss.take (k + 1), May s := fun h s hs => by
        rw [List.take_succ_eq_append_getElem hlt, List.mem_append] at hs
        rcases hs with hs | hs
        · exact hm.out s hs
        · rw [List.mem_singleton] at hs; rw [hs]; exact h
      have HM := Lib.hid hmem
      have HN := Lib.hid hnext
      clear hmem hnext
      generalize ss[k] = s at *
      by_cases h1 : 16384 < s.size
      · have HB : Hid (¬ May s) := Lib.hid (fun c => by have := c.1; omega)
        have h1' : decide ((s.size : Int) > 16384) = true := decide_eq_true (by omega)
        have h1'' : (16384 : Int) < (s.size : Int) := by omega
        go_wp2
        go_ret
        exact ⟨ret_int (mayE_no HM.out HB.out).symm, rfl⟩
      · have h1'' : ¬ (16384 : Int) < (s.size : Int) := by omega
        have h1s : s.size ≤ 16384 := by omega
        by_cases h2 : s.size = 0
        · have HG : Hid (May s) := Lib.hid ⟨by omega, fun h => by omega⟩
          have h2' : ¬ (0 : Int) < (s.size : Int) := by omega
          have h2'' : ¬ 0 < s.size := by omega
          have H2 := Lib.hid h2
          clear h2
          go_wp2
          go_round
          case rel => exact ⟨k + 1, by omega, by go_num, Lib.hid (HN.out HG.out)⟩
          case measure => simp [intOf]; omega
        · have h2' : 0 < s.size := by omega
          by_cases h3 : (s[0]'h2').toNat = 0
          · have HB : Hid (¬ May s) := Lib.hid (fun c => c.2 h2' h3)
            have h3' := u8_eqz _ h3
            have H3 := Lib.hid h3
            clear h3
            go_wp2
            go_ret
            exact ⟨ret_int (mayE_no HM.out HB.out).symm, rfl⟩
          · have HG : Hid (May s) := Lib.hid ⟨by omega, fun _ => h3⟩
            have h3' := u8_nez _ h3
            have H3 := Lib.hid h3
            clear h3
            go_wp2
            go_round
            case rel => exact ⟨k + 1, by omega, by go_num, Lib.hid (HN.out HG.out)⟩
            case measure => simp [intOf]; omega
    · obtain rfl : k = ss.length := by omega
      go_wp2
      go_ret
      have := hm.out
      rw [List.take_length] at this
      exact ⟨ret_int (mayE_ok this).symm, rfl⟩
/-- A block of texts. -/
theorem strs_new (w : World) (T : TypeId) (ss : List ByteArray) : Strs (w.alloc (.cells (ss.map Value.string).toArray T)) (some ⟨w.heap.size, 0, none⟩) ss := fun _ =>
  ⟨_, rfl, fun j h => by rw [add_plain0, World.cell?_alloc_new]; simp [h]⟩
set_option maxRecDepth 100000 in
theorem Check_c (s : ByteArray) (w : World) :
    Calls Tryz.prog 54 #[.string s] w fun e w' => e = .returned (.int .i64 (mayE [s])) ∧ Below w.heap.size w w' := by
  go_enter Tryz.func54, Tryz.ntmps54
  go_wp2_with fail
  refine (all_c _ 1 [s] _ (by simp) (strs_new w 22 [s])).mono ?_
  rintro e w' ⟨rfl, rfl⟩
  go_wp2
  go_ret
  exact ⟨rfl, (Below.refl _ _).alloc (Nat.le_refl _) _⟩
theorem words_c (n : Nat) (w : World) (hn : fits n) :
    Calls Tryz.prog 116 #[.string (natS n)] w (NumPost n w) := by
  have hz : (natS n).size ≤ 1000000000 := by rw [natS_size]; unfold fits at hn; omega
  have hr := Read_c (natS n) w hz
  rw [bytesN_natS] at hr
  have HR := Lib.hid hr
  clear hr
  go_enter Tryz.func116, Tryz.ntmps116
  go_wp2_with fail
  refine HR.out.mono ?_
  intro e w' hp
  obtain ⟨A, c, rfl, hc, hrow, hb⟩ := hp.get
  go_wp2
  go_ret
  exact NumPost.mk hc hrow hb
/-- The answer of what makes a number, and its error. -/
@[irreducible] def resS (n : Nat) : ByteArray := if fits n then natS n else ⟨#[]⟩
@[irreducible] def resE (n : Nat) : Int := if fits n then 0 else 4
theorem resS_ok {n : Nat} (h : fits n) : resS n = natS n := by unfold resS; rw [if_pos h]
theorem resE_ok {n : Nat} (h : fits n) : resE n = 0 := by unfold resE; rw [if_pos h]
theorem resS_no {n : Nat} (h : ¬ fits n) : resS n = ⟨#[]⟩ := by unfold resS; rw [if_neg h]
theorem resE_no {n : Nat} (h : ¬ fits n) : resE n = 4 := by unfold resE; rw [if_neg h]
/-- A text and an error; memory below is as it was. -/
def StrPost (s : ByteArray) (r : Int) (w : World) (e : Ending) (w' : World) : Prop := e = .returned (.tuple #[.string s, .int .i64 r]) ∧ Below w.heap.size w w'
@[irreducible] def longB (n : Nat) : Bool := decide (131072 < n)
@[local go_sem] theorem gt_long (n : Nat) : decide ((131072 : Int) < (n : Int)) = longB n := by
  unfold longB; rw [Bool.eq_iff_iff, decide_eq_true_iff, decide_eq_true_iff]; omega
theorem longB_iff (n : Nat) : longB (nd 2 n) = decide (¬ fits n) := by
  unfold longB fits
  have := bits_le n 16384
  rw [Bool.eq_iff_iff, decide_eq_true_iff, decide_eq_true_iff]; omega
set_option maxRecDepth 100000 in
theorem made_c (A : Option Addr) (c n B : Nat) (w : World) (hL : nd W n ≤ 1000000000) (hr : Row w B A n (nd W n)) (hB : B ≤ w.heap.size) :
    Calls Tryz.prog 115 #[.slice A (nd W n) c] w (StrPost (resS n) (resE n) w) := by
  have HR := Lib.hid hr
  clear hr
  by_cases h : fits n
  · have hl : longB (nd 2 n) = false := by rw [longB_iff]; simp [h]
    have HE := Lib.hid (resE_ok h)
    have HS := Lib.hid (resS_ok h)
    go_enter Tryz.func115, Tryz.ntmps115
    go_wp2_with (first | (go_at_call 76; refine (Len_c _ _ _ B _ hL HR.out).mono ?_; rintro e w' ⟨rfl, rfl⟩) | (go_at_call 77; refine (Bytes_c _ _ _ B _ hL HR.out hB).mono ?_; rintro e w' ⟨rfl, hb⟩))
    go_ret2
    exact ⟨by rw [HE.out, HS.out]; rfl, hb⟩
  · have hl : longB (nd 2 n) = true := by rw [longB_iff]; simp [h]
    have HE := Lib.hid (resE_no h)
    have HS := Lib.hid (resS_no h)
    go_enter Tryz.func115, Tryz.ntmps115
    go_wp2_with (first | (go_at_call 76; refine (Len_c _ _ _ B _ hL HR.out).mono ?_; rintro e w' ⟨rfl, rfl⟩))
    go_ret2
    exact ⟨by rw [HE.out, HS.out]; rfl, Below.refl _ _⟩
end Go.Proofs.YtjalpocjgpgcfaaGreatDoor
set_option linter.unusedSimpArgs false
set_option linter.unusedVariables false
namespace Go.Proofs.YtjalpocjgpgcfaaGreatDoor
open Go Go.RowKit Nt

@[irreducible] def brB (n : Nat) : Bool := decide (nd 256 n ≤ 8)
@[irreducible] def brN (n : Nat) : Nat := if nd 256 n ≤ 8 then n else 0
theorem brB_yes {n : Nat} (h : nd 256 n ≤ 8) : brB n = true := by unfold brB; exact decide_eq_true h
theorem brB_no {n : Nat} (h : ¬ nd 256 n ≤ 8) : brB n = false := by unfold brB; exact decide_eq_false h
theorem brN_yes {n : Nat} (h : nd 256 n ≤ 8) : brN n = n := by unfold brN; rw [if_pos h]
theorem brN_no {n : Nat} (h : ¬ nd 256 n ≤ 8) : brN n = 0 := by unfold brN; rw [if_neg h]
theorem br_lt {n : Nat} : nd 256 n ≤ 8 ↔ n < 18446744073709551616 := by
  rw [← lt_pow_iff (by omega)]
theorem brN_lt (n : Nat) : brN n < 18446744073709551616 := by
  by_cases h : nd 256 n ≤ 8
  · rw [brN_yes h]; exact br_lt.1 h
  · rw [brN_no h]; omega
/-- The value of the bytes ahead of the place k. -/
@[irreducible] def preN (n k : Nat) : Nat := n / 256 ^ (nd 256 n - k)
theorem preN_zero (n : Nat) : preN n 0 = 0 := by unfold preN; rw [Nat.sub_zero]; exact Nat.div_eq_of_lt (lt_nd (by omega))
theorem preN_full (n : Nat) : preN n (nd 256 n) = n := by unfold preN; rw [Nat.sub_self, Nat.pow_zero, Nat.div_one]
theorem preN_succ (n k : Nat) (h : k < nd 256 n) : preN n (k + 1) = 256 * preN n k + dgt 256 n (nd 256 n - 1 - k) := by
  unfold preN
  obtain ⟨m, hm⟩ : ∃ m, nd 256 n = k + 1 + m := ⟨nd 256 n - k - 1, by omega⟩
  rw [hm, show k + 1 + m - (k + 1) = m by omega, show k + 1 + m - k = m + 1 by omega, show k + 1 + m - 1 - k = m by omega, div_eq_dgt (by omega) n m, Nat.add_comm]
theorem preN_le (n k : Nat) : preN n k ≤ n := by unfold preN; exact Nat.div_le_self _ _
set_option maxRecDepth 100000 in
set_option maxHeartbeats 400000 in
theorem brief_c (n : Nat) (w : World) (hf : fits n) :
    Calls Tryz.prog 109 #[.string (natS n)] w fun e w' => e = .returned (.tuple #[.int .u64 (brN n : Nat), .bool (brB n)]) ∧ w = w' := by
  have hsz := natS_size n
  unfold fits at hf
  by_cases h : nd 256 n ≤ 8
  · have HB := Lib.hid (brB_yes h)
    have HN := Lib.hid (brN_yes h)
    have hlt8 : n < 18446744073709551616 := br_lt.1 h
    have HL := Lib.hid hlt8
    have h8 : ¬ 8 < nd 256 n := by omega
    clear hlt8
    go_enter Tryz.func109, Tryz.ntmps109
    go_wp2
    go_loop [2, 10] (fun v i => ∃ k : Nat, k ≤ nd 256 n ∧ i = .int .i64 k ∧ v = .int .u64 (preN n k : Nat)) (fun _ i => nd 256 n - (intOf i).toNat)
    case atStart => exact ⟨0, Nat.zero_le _, rfl, by rw [preN_zero]; rfl⟩
    case round =>
      obtain ⟨k, hk, rfl, rfl⟩ := hrel
      by_cases hlt : k < nd 256 n
      · have hks : k < (natS n).size := by omega
        have e := natS_get n k hks
        have es := preN_succ n k hlt
        have hp1 := preN_le n (k + 1)
        have hHL := HL.out
        have hv : bits .or .u64 (IntKind.u64.wrap ((preN n k : Nat) * 256)) (IntKind.u64.wrap (((natS n)[k].toNat : Nat) : Int)) = ((preN n (k + 1) : Nat) : Int) := by
          have hb := (natS n)[k].toNat_lt
          have e1 : IntKind.u64.wrap ((preN n k : Nat) * 256) = ((256 * preN n k : Nat) : Int) := by rw [IntKind.wrap_u64]; omega
          have e2 : IntKind.u64.wrap (((natS n)[k].toNat : Nat) : Int) = (((natS n)[k].toNat : Nat) : Int) := by rw [IntKind.wrap_u64]; omega
          rw [e1, e2, bits_or_u64_nat _ _ (by omega) (by omega), es, ← e]
          have := or_hi (preN n k) (natS n)[k].toNat 8 hb
          exact congrArg Int.ofNat this
        have HV := Lib.hid hv
        have E := Lib.hid e
        have ES := Lib.hid es
        clear e es hv hp1 hHL
        go_wp2
        go_round
        case rel => exact ⟨k + 1, by omega, by go_num, by rw [HV.out]⟩
        case measure => simp [intOf]; omega
      · obtain rfl : k = nd 256 n := by omega
        rw [preN_full]
        go_wp2
        go_ret2
        exact ⟨by rw [HB.out, HN.out]; rfl, rfl⟩
  · have HB := Lib.hid (brB_no h)
    have HN := Lib.hid (brN_no h)
    have h8 : 8 < nd 256 n := by omega
    go_enter Tryz.func109, Tryz.ntmps109
    go_wp2
    go_ret2
    exact ⟨by rw [HB.out, HN.out]; rfl, rfl⟩
/-- The cells of the array when k bytes stand at its end. -/
def ofF (n k j : Nat) : Nat := if 8 - k ≤ j ∧ j < 8 then dgt 256 n (7 - j) else 0
theorem ofF_step (n k i j : Nat) (h : i + (k + 1) = 8) (hj : j < 8) : (if j = i then dgt 256 n k else ofF n k j) = ofF n (k + 1) j := by
  unfold ofF
  by_cases h1 : j = i
  · rw [if_pos h1, if_pos (by omega)]; congr 1; omega
  · rw [if_neg h1]
    by_cases h2 : 8 - k ≤ j ∧ j < 8
    · rw [if_pos h2, if_pos (by omega)]
    · rw [if_neg h2, if_neg (by omega)]
theorem add_plainO (g k j : Nat) : (⟨g, k, none⟩ : Addr).add j = ⟨g, k + j, none⟩ := by
  unfold Addr.add; split
  · rename_i h; subst h; rfl
  · simp
theorem neqz_true {x : Nat} (h : x ≠ 0) : (((x : Nat) : Int) != 0) = true := by rw [bne_iff_ne]; omega
theorem neqz_false {x : Nat} (h : x = 0) : (((x : Nat) : Int) != 0) = false := by subst h; rfl
theorem arr_slice (g j : Nat) (h : j ≤ 8) : ∃ A : Option Addr, ((8 - j ≠ 0 → A = some ⟨g, j, none⟩) ∧ ∃ ad, A = some ad) ∧ ∀ w, (Instr.sliceAt 141 (.pointer (some ⟨g, 0, none⟩)) (some (.int .i64 j)) none none).run Tryz.prog w = .ok (.slice A (8 - j) (8 - j)) w := by
  refine ⟨if 8 = j then some ⟨g, 0, none⟩ else some ⟨g, j, none⟩, ⟨fun h0 => by rw [if_neg (by omega)], by split <;> exact ⟨_, rfl⟩⟩, fun w => ?_⟩
  have hal : Tryz.prog.arrayLen 141 = 8 := by kernel_rfl
  have ht : Tryz.prog.underlying 141 = some (.array (Tryz.prog.arrayLen 141) (Tryz.prog.elem 141)) := by kernel_rfl
  have he : Tryz.prog.elem 141 = 5 := by kernel_rfl
  rw [run_sliceAt_array_l w 141 ⟨g, 0, none⟩ ht .i64 _ (by omega) (by rw [hal]; omega), he, Tryz.sizeOf5 w, hal]
  simp only [Result.andThen, slicedAt, Int.toNat_natCast]
  by_cases h1 : 8 = j
  · rw [if_pos h1, if_pos h1]
  · rw [if_neg h1, if_neg h1, Nat.mul_one, add_plain0]
set_option maxRecDepth 100000 in
set_option maxHeartbeats 400000 in
theorem Of_n (n : Nat) (w : World) (hn : n < 18446744073709551616) :
    Calls Tryz.prog 53 #[.int .u64 (n : Nat)] w fun e w' => e = .returned (.string (natS n)) ∧ Below w.heap.size w w' := by
  have H8 := Lib.hid (br_lt.2 hn)
  have HN := Lib.hid hn
  clear hn
  go_enter Tryz.func53, Tryz.ntmps53
  go_wp2
  have h0 : (#[Value.int IntKind.u8 0, Value.int IntKind.u8 0, Value.int IntKind.u8 0, Value.int IntKind.u8 0, Value.int IntKind.u8 0, Value.int IntKind.u8 0, Value.int IntKind.u8 0, Value.int IntKind.u8 0] : Array Value) = fcells .u8 (ofF n 0) 8 := by
    rw [fcells_congr (f' := fun _ => 0) (fun j hj => by unfold ofF; rw [if_neg (by omega)])]; rfl
  rw [h0]
  have HB0 := Lib.hid (Blk.new w 141 (fcells .u8 (ofF n 0) 8))
  have hbl : Below w.heap.size w (w.alloc (.cells (fcells .u8 (ofF n 0) 8) 141)) := (Below.refl _ _).alloc (Nat.le_refl _) _
  generalize w.alloc (.cells (fcells .u8 (ofF n 0) 8) 141) = w1 at *
  obtain ⟨g, hg⟩ : ∃ g, g = w.heap.size := ⟨_, rfl⟩
  rw [← hg] at HB0 hbl ⊢
  have HG := Lib.hid hg
  clear hg h0
  go_loopw [0, 4] (fun x i wr => ∃ (k m j : Nat), x = .int .u64 m ∧ i = .int .i64 j ∧ Hid (j + k = 8) ∧ Hid (m = n / 256 ^ k) ∧ Hid (k ≤ nd 256 n) ∧ Hid (Blk wr g 141 (fcells .u8 (ofF n k) 8)) ∧ Below g w wr) (fun _ i _ => (intOf i).toNat)
  case atStart => exact ⟨0, n, 8, rfl, rfl, Lib.hid rfl, Lib.hid (by rw [Nat.pow_zero, Nat.div_one]), Lib.hid (Nat.zero_le _), HB0, hbl⟩
  case round =>
    obtain ⟨k, m, j, rfl, rfl, hj, hm, hk, hblk, hb⟩ := hrel
    by_cases h0 : m = 0
    · have hz := neqz_false h0
      have hnd : nd 256 n = k := by
        have h1 := hm.out
        rw [h0] at h1
        have h2 : n < 256 ^ k := by
          rcases Nat.lt_or_ge n (256 ^ k) with h | h
          · exact h
          · have := Nat.div_pos h (Nat.pow_pos (n := k) (show 0 < 256 by omega)); omega
        have := nd_le (b := 256) (by omega) h2
        have := hk.out; omega
      have HND := Lib.hid hnd
      obtain ⟨A, hA, hsl⟩ := arr_slice g j (by have := hj.out; omega)
      have hcv : ∀ W, W = wr → (convert 143 22 (.slice A (8 - j) (8 - j))).run Tryz.prog W = .ok (.string (natS n)) W := by
        rintro W rfl
        have hl : ((dl 256 n (nd 256 n)).reverse.map UInt8.ofNat).length = 8 - j := by simp [dl_length, hnd]; have := hj.out; omega
        rcases Nat.eq_zero_or_pos k with hk0 | hk0
        · have e0 : (dl 256 n (nd 256 n)).reverse.map UInt8.ofNat = [] := by rw [hnd, hk0]; rfl
          have h8 : 8 - j = 0 := by have := hj.out; omega
          obtain ⟨ad, rfl⟩ := hA.2
          have h := run_convert_bytes_back (P := Tryz.prog) W 143 22 5 ad (8 - j) ((dl 256 n (nd 256 n)).reverse.map UInt8.ofNat) Tryz.underlying143 Tryz.underlying5 Tryz.underlying22 (fun i hi => by rw [hl] at hi; omega)
          rw [hl, ← natS_def] at h
          exact h
        · obtain rfl := hA.1 (by have := hj.out; omega)
          have h := run_convert_bytes_back (P := Tryz.prog) W 143 22 5 ⟨g, j, none⟩ (8 - j) ((dl 256 n (nd 256 n)).reverse.map UInt8.ofNat) Tryz.underlying143 Tryz.underlying5 Tryz.underlying22 (fun i hi => by
            have hi' : i < 8 - j := by rw [← hl]; exact hi
            rw [add_plainO, hblk.out.cell, fcells_get _ _ _ _ (by omega)]
            have e := natS_get n i (by rw [natS_size, hnd]; have := hj.out; omega)
            rw [ba_get] at e
            simp only [natS_def] at e
            rw [List.getElem_toArray] at e
            rw [e]
            unfold ofF
            have hj' := hj.out
            rw [if_pos (by omega), hnd, show 7 - (j + i) = k - 1 - i by omega])
          rw [hl, ← natS_def] at h
          exact h
      have hcv' := hcv wr rfl
      have hmz := Lib.hid h0
      clear hcv h0 hnd
      go_wp2
      go_ret
      exact ⟨rfl, by rw [← HG.out]; exact hb⟩
    · have hz := neqz_true h0
      have hnd : k < nd 256 n := by
        rcases Nat.lt_or_ge k (nd 256 n) with h | h
        · exact h
        · have := (lt_pow_iff (b := 256) (by omega) k n).2 h
          have h2 := hm.out
          rw [Nat.div_eq_of_lt this] at h2; omega
      obtain ⟨i, hi⟩ : ∃ i, j = i + 1 := ⟨j - 1, by have := hj.out; have := H8.out; omega⟩
      subst hi
      have hi8 : i < 8 := by have := hj.out; omega
      have hij : ((i : Int) + 1) - 1 = (i : Int) := by omega
      have hfz := hblk.out.frozen i
      have hck := hblk.out.cell i
      rw [fcells_get _ _ _ _ hi8] at hck
      have hv : IntKind.u8.wrap (m : Int) = ((dgt 256 n k : Nat) : Int) := by rw [wrap_u8, hm.out, dgt_def]
      have hm2 : (m : Int) / 256 = ((m / 256 : Nat) : Int) := by omega
      obtain ⟨m', hm'⟩ : ∃ m', m' = m / 256 := ⟨_, rfl⟩
      rw [← hm'] at hm2
      have HM' : Hid (m' = n / 256 ^ (k + 1)) := Lib.hid (by rw [hm', hm.out, Nat.pow_succ, Nat.div_div_eq_div_mul])
      have HB1 := Lib.hid (hblk.out.set_ i (.int .u8 (dgt 256 n k : Nat)))
      rw [fcells_set, fcells_congr (f' := ofF n (k + 1)) (fun x hx => ofF_step n k i x (by have := hj.out; omega) hx)] at HB1
      have hb1 := hb.setCell (p := ⟨g, i, none⟩) (Nat.le_refl _) (.int .u8 (dgt 256 n k : Nat))
      have HJ : Hid (i + (k + 1) = 8) := Lib.hid (by have := hj.out; omega)
      have HK : Hid (k + 1 ≤ nd 256 n) := Lib.hid (by omega)
      clear h0 hnd hm'
      go_wp2
      go_roundw
      case rel => exact ⟨k + 1, m', i, rfl, rfl, HJ, HM', HK, HB1, hb1⟩
      case measure => simp [intOf]
end Go.Proofs.YtjalpocjgpgcfaaGreatDoor
set_option linter.unusedSimpArgs false
set_option linter.unusedVariables false
namespace Go.Proofs.YtjalpocjgpgcfaaGreatDoor
open Go Go.RowKit Nt

/-! The order of texts. -/
def bvL (l : List UInt8) : Nat := of 256 (l.reverse.map UInt8.toNat)
theorem bvL_cons (x : UInt8) (l : List UInt8) : bvL (x :: l) = bvL l + 256 ^ l.length * x.toNat := by
  unfold bvL
  rw [List.reverse_cons, List.map_append, of_append]
  simp [of_cons, of_nil]
theorem bvL_lt (l : List UInt8) : bvL l < 256 ^ l.length := by
  have := of_lt (b := 256) (by omega) (l.reverse.map UInt8.toNat) (fun x hx => by obtain ⟨y, _, rfl⟩ := List.mem_map.1 hx; exact y.toNat_lt)
  rwa [List.length_map, List.length_reverse] at this
theorem bytesLess_iff : ∀ (l m : List UInt8), l.length = m.length → Op.bytesLess l m = decide (bvL l < bvL m)
  | [], [], _ => by simp [Op.bytesLess, bvL]
  | [], _ :: _, h => by simp at h
  | _ :: _, [], h => by simp at h
  | x :: l, y :: m, h => by
    have hl : l.length = m.length := by simpa using h
    have ih := bytesLess_iff l m hl
    have h1 := bvL_lt l
    have h2 := bvL_lt m
    rw [Op.bytesLess, ih, bvL_cons, bvL_cons, hl]
    rw [hl] at h1
    rw [Bool.eq_iff_iff, Bool.or_eq_true, Bool.and_eq_true, decide_eq_true_iff, decide_eq_true_iff, beq_iff_eq, decide_eq_true_iff, UInt8.lt_iff_toNat_lt]
    rcases Nat.lt_trichotomy x.toNat y.toNat with h3 | h3 | h3
    · have : 256 ^ m.length * (x.toNat + 1) ≤ 256 ^ m.length * y.toNat := Nat.mul_le_mul_left _ h3
      rw [Nat.mul_add] at this
      exact ⟨fun _ => by omega, fun _ => Or.inl h3⟩
    · have e : x = y := UInt8.toNat_inj.1 h3
      subst e
      constructor
      · rintro (h | ⟨_, h⟩)
        · omega
        · omega
      · intro h; exact Or.inr ⟨rfl, by omega⟩
    · have : 256 ^ m.length * (y.toNat + 1) ≤ 256 ^ m.length * x.toNat := Nat.mul_le_mul_left _ h3
      rw [Nat.mul_add] at this
      constructor
      · rintro (h | ⟨h, _⟩)
        · omega
        · subst h; omega
      · intro h; omega
theorem ba_toList (s : ByteArray) : s.toList = s.data.toList := Go.ByteArray.toList_eq s
theorem natS_less (a b : Nat) (h : nd 256 a = nd 256 b) : Op.bytesLess (natS a).toList (natS b).toList = decide (a < b) := by
  have e : ∀ n, bvL (natS n).toList = n := fun n => by rw [ba_toList]; exact bytesN_natS n
  have hl : (natS a).toList.length = (natS b).toList.length := by
    rw [ba_toList, ba_toList, Array.length_toList, Array.length_toList]
    exact (natS_size a).trans (h.trans (natS_size b).symm)
  rw [bytesLess_iff _ _ hl, e, e]
theorem natS_list_eq (a b : Nat) : (natS a).toList = (natS b).toList ↔ a = b := by
  constructor
  · intro h
    rw [ba_toList, ba_toList] at h
    exact natS_inj (ByteArray.ext (Array.toList_inj.1 h))
  · rintro rfl; rfl
theorem isNaN_nat (s : ByteArray) (w : World) :
    Calls Tryz.prog 139 #[.string s] w fun e w' => e = .returned (.bool false) ∧ w = w' := by
  go_enter Tryz.func139, Tryz.ntmps139
  go_wp2
  go_ret
  exact ⟨rfl, rfl⟩
set_option maxRecDepth 100000 in
theorem Compare_nat (a b : Nat) (w : World) (h : nd 256 a = nd 256 b) :
    Calls Tryz.prog 130 #[.string (natS a), .string (natS b)] w fun e w' => e = .returned (.int .i64 (cmpN a b)) ∧ w = w' := by
  have h1 := natS_less a b h
  have h2 : ((natS a).toList == (natS b).toList) = decide (a = b) := by
    rw [Bool.eq_iff_iff, beq_iff_eq, decide_eq_true_iff, natS_list_eq]
  rcases Nat.lt_trichotomy a b with hlt | heq | hgt
  · have e1 : decide (a < b) = true := decide_eq_true hlt
    rw [e1] at h1
    have HC := Lib.hid (cmpN_lt hlt)
    clear h2 hlt
    go_enter Tryz.func130, Tryz.ntmps130
    go_wp2_with (go_at_call 139; refine (isNaN_nat _ _).mono ?_; rintro e w' ⟨rfl, rfl⟩)
    go_ret
    exact ⟨ret_int HC.out.symm, rfl⟩
  · subst heq
    have e1 : decide (a < a) = false := decide_eq_false (by omega)
    rw [e1] at h1
    have HC := Lib.hid (cmpN_eq a)
    clear h2
    go_enter Tryz.func130, Tryz.ntmps130
    go_wp2_with (go_at_call 139; refine (isNaN_nat _ _).mono ?_; rintro e w' ⟨rfl, rfl⟩)
    go_ret
    exact ⟨ret_int HC.out.symm, rfl⟩
  · have e1 : decide (a < b) = false := decide_eq_false (by omega)
    have e2 : decide (a = b) = false := decide_eq_false (by omega)
    rw [e1] at h1
    rw [e2] at h2
    have h3 : ¬ (natS a).toList = (natS b).toList := fun c => by rw [natS_list_eq] at c; omega
    have HC := Lib.hid (cmpN_gt hgt)
    clear e1 e2
    go_enter Tryz.func130, Tryz.ntmps130
    go_wp2_with (go_at_call 139; refine (isNaN_nat _ _).mono ?_; rintro e w' ⟨rfl, rfl⟩)
    go_ret
    exact ⟨ret_int HC.out.symm, rfl⟩
theorem may2 {a b : Nat} (ha : fits a) (hb : fits b) : mayE [natS a, natS b] = 0 := mayE_ok (fun s hs => by
  rcases List.mem_cons.1 hs with rfl | hs
  · exact (may_natS a).2 ha
  · rw [List.mem_singleton.1 hs]; exact (may_natS b).2 hb)
theorem may1 {a : Nat} (ha : fits a) : mayE [natS a] = 0 := mayE_ok (fun s hs => by rw [List.mem_singleton.1 hs]; exact (may_natS a).2 ha)
theorem may1_no {s : ByteArray} (h : ¬ May s) : mayE [s] = 2 := mayE_no (List.mem_singleton.2 rfl) h
theorem may2_no {s t : ByteArray} (h : ¬ (May s ∧ May t)) : mayE [s, t] = 2 := by
  by_cases h1 : May s
  · exact mayE_no (s := t) (by simp) (fun c => h ⟨h1, c⟩)
  · exact mayE_no (s := s) (by simp) h1
set_option maxRecDepth 100000 in
theorem Small_c (n : Nat) (w : World) (hf : fits n) :
    Calls Tryz.prog 71 #[.string (natS n)] w fun e w' => e = .returned (.tuple #[.int .u64 (brN n : Nat), .bool (brB n)]) ∧ Below w.heap.size w w' := by
  have hm := may1 hf
  go_enter Tryz.func71, Tryz.ntmps71
  go_wp2_with (first | (go_at_call 54; refine (Check_c _ _).mono ?_; rintro e w1 ⟨rfl, hb⟩) | (go_at_call 109; refine (brief_c n _ hf).mono ?_; rintro e w' ⟨rfl, rfl⟩))
  go_ret2
  exact ⟨rfl, hb⟩
set_option maxRecDepth 100000 in
theorem Small_no (s : ByteArray) (w : World) (h : ¬ May s) :
    Calls Tryz.prog 71 #[.string s] w fun e w' => e = .returned (.tuple #[.int .u64 0, .bool false]) ∧ Below w.heap.size w w' := by
  have hm := may1_no h
  go_enter Tryz.func71, Tryz.ntmps71
  go_wp2_with (first | (go_at_call 54; refine (Check_c _ _).mono ?_; rintro e w1 ⟨rfl, hb⟩))
  go_ret2
  exact ⟨rfl, hb⟩
/-- Two integers and memory below as it was. -/
def IntPost (a b : Int) (w : World) (e : Ending) (w' : World) : Prop := e = .returned (.tuple #[.int .i64 a, .int .i64 b]) ∧ Below w.heap.size w w'
set_option maxRecDepth 100000 in
theorem Cmp_no (s t : ByteArray) (w : World) (h : ¬ (May s ∧ May t)) :
    Calls Tryz.prog 112 #[.string s, .string t] w (IntPost 0 2 w) := by
  have hm := may2_no h
  go_enter Tryz.func112, Tryz.ntmps112
  go_wp2_with (first | (go_at_call 85; refine (all_c _ 2 [s, t] _ (by simp) (strs_new w 22 [s, t])).mono ?_; rintro e w' ⟨rfl, rfl⟩))
  go_ret2
  exact ⟨rfl, (Below.refl _ _).alloc (Nat.le_refl _) _⟩
theorem compareInt_nd (a b : Nat) (h : nd 256 a ≠ nd 256 b) : Go.Lib.compareInt (nd 256 a : Nat) (nd 256 b : Nat) = cmpN a b := by
  unfold Go.Lib.compareInt
  rcases Nat.lt_or_gt_of_ne h with h1 | h1
  · rw [if_pos (by omega), cmpN_lt (lt_of_nd (by omega) h1)]
  · rw [if_neg (by omega), if_pos (by omega), cmpN_gt (lt_of_nd (by omega) h1)]
set_option maxRecDepth 100000 in
theorem NCmp_c (a b : Nat) (w : World) (ha : fits a) (hb : fits b) :
    Calls Tryz.prog 112 #[.string (natS a), .string (natS b)] w (IntPost (cmpN a b) 0 w) := by
  have hm := may2 ha hb
  have hsa := natS_size a
  have hsb := natS_size b
  by_cases h : nd 256 a = nd 256 b
  · have hz : ((nd 256 a : Int) != (nd 256 b : Int)) = false := by rw [h]; simp
    have H := Lib.hid h
    clear h
    go_enter Tryz.func112, Tryz.ntmps112
    go_wp2_with (first | (go_at_call 85; refine (all_c _ 2 [natS a, natS b] _ (by simp) (strs_new w 22 [natS a, natS b])).mono ?_; rintro e w' ⟨rfl, rfl⟩) | (go_at_call 130; refine (Compare_nat a b _ H.out).mono ?_; rintro e w' ⟨rfl, rfl⟩))
    go_ret2
    exact ⟨rfl, (Below.refl _ _).alloc (Nat.le_refl _) _⟩
  · have hz : ((nd 256 a : Int) != (nd 256 b : Int)) = true := by rw [bne_iff_ne]; omega
    have H := Lib.hid (compareInt_nd a b h)
    clear h
    go_enter Tryz.func112, Tryz.ntmps112
    go_wp2_with (first | (go_at_call 85; refine (all_c _ 2 [natS a, natS b] _ (by simp) (strs_new w 22 [natS a, natS b])).mono ?_; rintro e w' ⟨rfl, rfl⟩) | (go_at_call 129; refine (Tryz.cmp_Compare_int _ _ _).mono ?_; rintro e w' ⟨rfl, rfl⟩))
    go_ret2
    exact ⟨by rw [← H.out]; rfl, (Below.refl _ _).alloc (Nat.le_refl _) _⟩
end Go.Proofs.YtjalpocjgpgcfaaGreatDoor
set_option linter.unusedSimpArgs false
set_option linter.unusedVariables false
namespace Go.Proofs.YtjalpocjgpgcfaaGreatDoor
open Go Go.RowKit Nt

theorem fits_words {n : Nat} (h : fits n) : nd W n ≤ 2048 := by
  unfold fits at h; rw [← words_bytes]; omega
theorem sum_words {a b : Nat} {m : Nat} (ha : nd W a ≤ m) (hb : nd W b ≤ m) : nd W (a + b) ≤ m + 1 := by
  refine nd_le W2 ?_
  have h1 := (lt_pow_iff W2 m a).2 ha
  have h2 := (lt_pow_iff W2 m b).2 hb
  rw [Nat.pow_succ]
  have h3 : 2 * W ^ m ≤ W ^ m * W := by rw [Nat.mul_comm]; exact Nat.mul_le_mul_left _ W2
  omega
theorem mul_words (a b : Nat) : nd W (a * b) ≤ nd W a + nd W b := by
  refine nd_le W2 ?_
  rw [Nat.pow_add]
  have h1 := lt_nd (n := a) W2
  have h2 := lt_nd (n := b) W2
  rcases Nat.eq_zero_or_pos b with h | h
  · subst h; rw [Nat.mul_zero]; exact Nat.mul_pos (Nat.pow_pos W0) (Nat.pow_pos W0)
  · exact Nat.lt_of_lt_of_le ((Nat.mul_lt_mul_right h).2 h1) (Nat.mul_le_mul_left _ (by omega))
/-- Do two brief numbers have a brief sum? -/
@[irreducible] def bsB (a b : Nat) : Bool := brB a && brB b && decide (a + b < 18446744073709551616)
@[irreducible] def bsS (a b : Nat) : ByteArray := if bsB a b = true then natS (a + b) else ⟨#[]⟩
theorem bsB_yes {a b : Nat} (h1 : brB a = true) (h2 : brB b = true) (h3 : a + b < 18446744073709551616) : bsB a b = true := by unfold bsB; rw [h1, h2, decide_eq_true h3]; rfl
theorem bsB_no1 {a b : Nat} (h : brB a = false) : bsB a b = false := by unfold bsB; rw [h]; rfl
theorem bsB_no2 {a b : Nat} (h : brB b = false) : bsB a b = false := by unfold bsB; rw [h, Bool.and_false]; rfl
theorem bsB_no3 {a b : Nat} (h : ¬ a + b < 18446744073709551616) : bsB a b = false := by unfold bsB; rw [decide_eq_false h, Bool.and_false]
theorem bsS_yes {a b : Nat} (h : bsB a b = true) : bsS a b = natS (a + b) := by unfold bsS; rw [if_pos h]
theorem bsS_no {a b : Nat} (h : bsB a b = false) : bsS a b = ⟨#[]⟩ := by unfold bsS; rw [if_neg (by rw [h]; decide)]
theorem brB_true {n : Nat} (h : brB n = true) : nd 256 n ≤ 8 := by unfold brB at h; exact of_decide_eq_true h
/-- A text and a yes or no. -/
def StrBPost (s : ByteArray) (b : Bool) (w : World) (e : Ending) (w' : World) : Prop := e = .returned (.tuple #[.string s, .bool b]) ∧ Below w.heap.size w w'
theorem add_some (a b : Nat) : ∃ s cc : Nat, ∀ w, (callFunc 79 #[.int .u64 (brN a : Nat), .int .u64 (brN b : Nat), .int .u64 0]).run Tryz.prog w = .ok (.value (.tuple #[.int .u64 (s : Nat), .int .u64 (cc : Nat)])) w :=
  ⟨_, _, fun w => Tryz.bits_Add64 (brN a) (brN b) 0 (by omega) w⟩
end Go.Proofs.YtjalpocjgpgcfaaGreatDoor
set_option linter.unusedSimpArgs false
set_option linter.unusedVariables false
namespace Go.Proofs.YtjalpocjgpgcfaaGreatDoor
open Go Go.RowKit Nt

theorem sum_take (l : List Nat) (k : Nat) (h : k < l.length) : (l.take (k + 1)).sum = (l.take k).sum + l[k] := by
  rw [List.take_succ_eq_append_getElem h, List.sum_append]; simp
theorem sum_lt (l : List Nat) (m : Nat) (h : ∀ n ∈ l, n < m) : l.sum ≤ l.length * m := by
  induction l with
  | nil => simp
  | cons x l ih =>
    have h1 := ih (fun n hn => h n (List.mem_cons_of_mem _ hn))
    have h2 := h x (List.mem_cons_self ..)
    rw [List.sum_cons, List.length_cons, Nat.add_mul]; omega
theorem sum_ndm (l : List Nat) (m : Nat) (h : ∀ n ∈ l, nd W n ≤ m) (hl : l.length ≤ 140737488355328) : nd W l.sum ≤ m + 1 := by
  have h1 := sum_lt l (W ^ m) (fun n hn => (lt_pow_iff W2 _ _).2 (h n hn))
  refine nd_le W2 ?_
  rw [Nat.pow_succ]
  refine Nat.lt_of_le_of_lt h1 ?_
  rw [Nat.mul_comm]
  refine (Nat.mul_lt_mul_left (Nat.pow_pos W0)).2 ?_
  rw [W_eq]; omega
theorem sum_nd (l : List Nat) (h : ∀ n ∈ l, fits n) (hl : l.length ≤ 140737488355328) : nd W l.sum ≤ 2049 := sum_ndm l 2048 (fun n hn => fits_words (h n hn)) hl
theorem mem_take {α : Type} {l : List α} {k : Nat} {x : α} (h : x ∈ l.take k) : x ∈ l := List.mem_of_mem_take h
theorem may_all {l : List Nat} (h : ∀ n ∈ l, fits n) : mayE (l.map natS) = 0 := mayE_ok (fun s hs => by
  obtain ⟨n, hn, rfl⟩ := List.mem_map.1 hs; exact (may_natS n).2 (h n hn))
theorem len2 (l : List Nat) (h : l.length = 2) : ∃ a b, l = [a, b] := by
  match l, h with
  | [a, b], _ => exact ⟨a, b, rfl⟩
theorem two_cells {w : World} {A : Option Addr} {l : List Nat} (h2 : l.length = 2) (h : Strs w A (l.map natS)) (hf : ∀ n ∈ l, fits n) (hA : ∀ ad, A = some ad → ad.block < w.heap.size) :
    ∃ (a b : Nat) (ad : Addr), A = some ad ∧ ad.block < w.heap.size ∧ w.cell? ad = some (.string (natS a)) ∧ w.cell? (ad.add 1) = some (.string (natS b)) ∧ fits a ∧ fits b ∧ l.sum = a + b := by
  obtain ⟨a, b, rfl⟩ := len2 l h2
  obtain ⟨ad, rfl, hc0⟩ := h.at_ (k := 0) (by simp)
  obtain ⟨ad', e1, hc1⟩ := h.at_ (k := 1) (by simp)
  obtain rfl : ad = ad' := Option.some.inj e1
  rw [show ad.add 0 = ad by unfold Addr.add; rw [if_pos rfl]] at hc0
  exact ⟨a, b, ad, rfl, hA ad rfl, hc0, hc1, hf a (by simp), hf b (by simp), by simp⟩
theorem bsB_res {a b : Nat} (h : bsB a b = true) : resS (a + b) = natS (a + b) ∧ resE (a + b) = 0 := by
  have hs : a + b < 18446744073709551616 := by
    unfold bsB at h
    rw [Bool.and_eq_true, Bool.and_eq_true, decide_eq_true_iff] at h
    exact h.2
  have hf : fits (a + b) := by have := br_lt.2 hs; unfold fits; omega
  exact ⟨resS_ok hf, resE_ok hf⟩
/-- What stands in the strings' world. -/
def SB (w w' : World) : Prop := Below w.heap.size w w'
theorem SB_step {w w1 w2 : World} (h : SB w w1) (h2 : Below w1.heap.size w1 w2) : SB w w2 := Below.trans h (h2.mono h.size)
theorem SB_any {w w' : World} (h : SB w w') (n : Nat) : SB w (w'.drewN n) := below_drewN h n
end Go.Proofs.YtjalpocjgpgcfaaGreatDoor
set_option linter.unusedSimpArgs false
set_option linter.unusedVariables false
namespace Go.Proofs.YtjalpocjgpgcfaaGreatDoor
open Go Go.RowKit Nt

theorem fits_le {m n : Nat} (h : fits n) (hm : m ≤ n) : fits m := by unfold fits at *; exact Nat.le_trans (nd_mono (by omega) hm) h
theorem natS_empty {n : Nat} (h : n = 0) : (natS n).toList = [] := by subst h; rw [natS_zero, ba_toList]
theorem natS_full {n : Nat} (h : n ≠ 0) : ¬ (natS n).toList = [] := fun c => by
  rw [ba_toList] at c
  have h1 : (natS n).size = 0 := by show (natS n).data.size = 0; rw [← Array.length_toList, c]; rfl
  rw [natS_size, nd_eq_zero (by omega)] at h1; exact h h1
theorem natS_full2 {n : Nat} (h : n ≠ 0) : (natS n).toList.isEmpty = false := by
  have := natS_full h
  cases h2 : (natS n).toList with
  | nil => exact absurd h2 this
  | cons x l => rfl
theorem cmp_neg {a b : Nat} (h : a < b) : decide (cmpN a b < 0) = true := by rw [cmpN_lt h]; rfl
theorem cmp_pos {a b : Nat} (h : b ≤ a) : decide (cmpN a b < 0) = false := by
  rcases Nat.eq_or_lt_of_le h with h1 | h1
  · subst h1; rw [cmpN_eq]; rfl
  · rw [cmpN_gt h1]; rfl
/-- Is the product of two too long by the lengths alone? -/
theorem mul_long {a b : Nat} (ha : a ≠ 0) (hb : b ≠ 0) : nd 256 a - 1 + (nd 256 b - 1) < nd 256 (a * b) := by
  have h1 : nd 256 a ≠ 0 := fun c => ha ((nd_eq_zero (by omega)).1 c)
  have h2 : nd 256 b ≠ 0 := fun c => hb ((nd_eq_zero (by omega)).1 c)
  refine (pow_le_iff (by omega) _ _).1 ?_
  rw [Nat.pow_add]
  exact Nat.mul_le_mul ((pow_le_iff (by omega) _ _).2 (by omega)) ((pow_le_iff (by omega) _ _).2 (by omega))
theorem small_prod {x y : Nat} (h : x * y < 18446744073709551616) : x * y / 18446744073709551616 = 0 ∧ x * y % 18446744073709551616 = x * y := ⟨Nat.div_eq_of_lt h, Nat.mod_eq_of_lt h⟩
@[irreducible] def longI (z : Int) : Bool := decide (131072 < z)
@[local go_sem] theorem gt_longI (z : Int) : decide ((131072 : Int) < z) = longI z := by unfold longI; rfl
set_option maxRecDepth 100000 in
theorem NMul_no (s t : ByteArray) (w : World) (h : ¬ (May s ∧ May t)) :
    Calls Tryz.prog 133 #[.string s, .string t] w (StrPost ⟨#[]⟩ 2 w) := by
  have hm := may2_no h
  go_enter Tryz.func133, Tryz.ntmps133
  go_wp2_with (first | (go_at_call 85; refine (all_c _ 2 [s, t] _ (by simp) (strs_new w 22 [s, t])).mono ?_; rintro e w' ⟨rfl, rfl⟩))
  go_ret2
  exact ⟨rfl, (Below.refl _ _).alloc (Nat.le_refl _) _⟩
set_option maxRecDepth 100000 in
theorem NMul_small (a b : Nat) (w : World) (ha : fits a) (hb : fits b) (h1 : brB a = true) (h2 : brB b = true) (h3 : a * b < 18446744073709551616) :
    Calls Tryz.prog 133 #[.string (natS a), .string (natS b)] w (StrPost (natS (a * b)) 0 w) := by
  have hm := may2 ha hb
  have e1 := brN_yes (brB_true h1)
  have e2 := brN_yes (brB_true h2)
  have hmul := fun w => Tryz.bits_Mul64 a b (br_lt.1 (brB_true h1)) (br_lt.1 (brB_true h2)) w
  obtain ⟨q1, q2⟩ := small_prod h3
  rw [q1, q2] at hmul
  have HM := Lib.hid hmul
  have HP := Lib.hid h3
  clear hmul q1 q2 h3
  go_enter Tryz.func133, Tryz.ntmps133
  go_wp2_with (first
    | (go_at_call 85; refine (all_c _ 2 [natS a, natS b] _ (by simp) (strs_new w 22 [natS a, natS b])).mono ?_; rintro e w' ⟨rfl, rfl⟩)
    | (go_at_call 109; refine (brief_c _ _ (by assumption)).mono ?_; rintro e w' ⟨rfl, rfl⟩)
    | (go_at_call 141; refine (HM.out _).mono ?_; rintro e w' ⟨rfl, rfl⟩)
    | (go_at_call 53; refine (Of_n _ _ HP.out).mono ?_; rintro e w' ⟨rfl, hb2⟩))
  go_ret2
  exact ⟨rfl, ((Below.refl _ _).alloc (Nat.le_refl _) _).trans (hb2.mono (by simp))⟩
theorem mul_cases (a b : Nat) : (brB a = true ∧ brB b = true ∧ a * b < 18446744073709551616) ∨ brB a = false ∨ (brB a = true ∧ brB b = false) ∨ (brB a = true ∧ brB b = true ∧ ¬ a * b < 18446744073709551616) := by
  by_cases h3 : a * b < 18446744073709551616 <;> cases brB a <;> cases brB b <;> simp [h3]
theorem big_prod {a b : Nat} (h1 : brB a = true) (h2 : brB b = true) (h : ¬ a * b < 18446744073709551616) : ∃ hi lo : Nat, ((hi : Int) == 0) = false ∧
    ∀ w, Calls Tryz.prog 141 #[.int .u64 (a : Nat), .int .u64 (b : Nat)] w fun e w' => e = .returned (.tuple #[.int .u64 (hi : Nat), .int .u64 (lo : Nat)]) ∧ w' = w :=
  ⟨_, _, eqz_false (by have := Nat.div_pos (a := a * b) (b := 18446744073709551616) (by omega) (by omega); omega), fun w => Tryz.bits_Mul64 a b (br_lt.1 (brB_true h1)) (br_lt.1 (brB_true h2)) w⟩
/-- The test of the lengths. -/
theorem mul_test (a b : Nat) (ha : fits a) (hb : fits b) : (a = 0 ∨ b = 0 ∨ longI (8 * ((nd 256 a : Int) - 1) + 8 * ((nd 256 b : Int) - 1)) = false) ∨ (a ≠ 0 ∧ b ≠ 0 ∧ longI (8 * ((nd 256 a : Int) - 1) + 8 * ((nd 256 b : Int) - 1)) = true ∧ ¬ fits (a * b)) := by
  by_cases h1 : a = 0
  · exact Or.inl (Or.inl h1)
  by_cases h2 : b = 0
  · exact Or.inl (Or.inr (Or.inl h2))
  by_cases h3 : 131072 < 8 * ((nd 256 a : Int) - 1) + 8 * ((nd 256 b : Int) - 1)
  · refine Or.inr ⟨h1, h2, by unfold longI; exact decide_eq_true h3, fun c => ?_⟩
    have := mul_long h1 h2
    unfold fits at c; omega
  · exact Or.inl (Or.inr (Or.inr (by unfold longI; exact decide_eq_false h3)))
set_option maxRecDepth 100000 in
set_option maxHeartbeats 2000000 in
theorem NMul_c (a b : Nat) (w : World) (ha : fits a) (hb : fits b) :
    Calls Tryz.prog 133 #[.string (natS a), .string (natS b)] w (StrPost (resS (a * b)) (resE (a * b)) w) := by
  have hm := may2 ha hb
  have hza := natS_size a
  have hzb := natS_size b
  have hna : nd 256 a ≤ 16384 := ha
  have hnb : nd 256 b ≤ 16384 := hb
  have hwa := fits_words ha
  have hwb := fits_words hb
  have hwm := mul_words a b
  rcases mul_cases a b with ⟨h1, h2, h3⟩ | h | ⟨h1, h2⟩ | ⟨h1, h2, h3⟩
  case' inl =>
    have hf : fits (a * b) := by have := br_lt.2 h3; unfold fits; omega
    rw [resS_ok hf, resE_ok hf]
    exact NMul_small a b w ha hb h1 h2 h3
  case' inr.inl =>
    go_enter Tryz.func133, Tryz.ntmps133
    go_upto_region 10 with (first
      | (go_at_call 85; refine (all_c _ 2 [natS a, natS b] _ (by simp) (strs_new w 22 [natS a, natS b])).mono ?_; rintro e w' ⟨rfl, rfl⟩)
      | (go_at_call 109; refine (brief_c _ _ (by assumption)).mono ?_; rintro e w' ⟨rfl, rfl⟩))
  case' inr.inr.inl =>
    go_enter Tryz.func133, Tryz.ntmps133
    go_upto_region 10 with (first
      | (go_at_call 85; refine (all_c _ 2 [natS a, natS b] _ (by simp) (strs_new w 22 [natS a, natS b])).mono ?_; rintro e w' ⟨rfl, rfl⟩)
      | (go_at_call 109; refine (brief_c _ _ (by assumption)).mono ?_; rintro e w' ⟨rfl, rfl⟩))
  case' inr.inr.inr =>
    have e1 := brN_yes (brB_true h1)
    have e2 := brN_yes (brB_true h2)
    obtain ⟨hi, lo, hz, hmul⟩ := big_prod h1 h2 h3
    have HM := Lib.hid hmul
    clear hmul h3
    go_enter Tryz.func133, Tryz.ntmps133
    go_upto_region 10 with (first
      | (go_at_call 85; refine (all_c _ 2 [natS a, natS b] _ (by simp) (strs_new w 22 [natS a, natS b])).mono ?_; rintro e w' ⟨rfl, rfl⟩)
      | (go_at_call 109; refine (brief_c _ _ (by assumption)).mono ?_; rintro e w' ⟨rfl, rfl⟩)
      | (go_at_call 141; refine (HM.out _).mono ?_; rintro e w' ⟨rfl, rfl⟩))
  all_goals
    have hbw : Below w.heap.size w (w.alloc (.cells #[.string (natS a), .string (natS b)] 22)) := (Below.refl _ _).alloc (Nat.le_refl _) _
    generalize w.alloc (.cells #[.string (natS a), .string (natS b)] 22) = w1 at *
    rcases mul_test a b ha hb with h0 | ⟨h1, h2, h3, h4⟩
    · rcases h0 with h0 | h0 | h0
      case' inl => have hE := natS_empty h0
      case' inr.inl => have hE := natS_empty h0
      all_goals
        have HO := Lib.hid h0
        have HHm := Lib.hid hwm
        clear h0 hwm
      case' inr.inr => have hE := HO.out
      all_goals
        go_upto_region 13 with fail
      all_goals
        go_wp2_with fail
        refine (words_c a _ ha).mono ?_
        intro e w2 hp
        obtain ⟨A1, c1, rfl, hc1, hr1, hb2⟩ := hp.get
        have HR1 := Lib.hid hr1
        clear hr1 hp
        go_wp2_with fail
        refine (words_c b _ hb).mono ?_
        intro e w3 hp
        obtain ⟨A2, c2, rfl, hc2, hr2, hb3⟩ := hp.get
        have HR2 := Lib.hid hr2
        clear hr2 hp
        go_wp2_with fail
        refine (Mul_c A1 A2 c1 c2 a b w3.heap.size w3 (by omega) ((HR1.out.below hb3).more hb3.size) HR2.out (Nat.le_refl _)).mono ?_
        intro e w4 hp
        obtain ⟨A3, c3, rfl, hc3, hr3, hb4⟩ := hp.get
        have HR3 := Lib.hid hr3
        clear hr3 hp
        go_wp2_with fail
        refine (made_c A3 c3 (a * b) w4.heap.size w4 (by have := HHm.out; omega) HR3.out (Nat.le_refl _)).mono ?_
        rintro e w5 ⟨rfl, hb5⟩
        go_wp2_with fail
        go_ret2
        exact ⟨rfl, hbw.trans ((hb2.mono hbw.size).trans ((hb3.mono (Nat.le_trans hbw.size hb2.size)).trans ((hb4.mono (Nat.le_trans hbw.size (Nat.le_trans hb2.size hb3.size))).trans (hb5.mono (Nat.le_trans hbw.size (Nat.le_trans hb2.size (Nat.le_trans hb3.size hb4.size)))))))⟩
    · have n1 := natS_full h1
      have n2 := natS_full h2
      have m1 := natS_full2 h1
      have m2 := natS_full2 h2
      have R1 := Lib.hid (resS_no h4)
      have R2 := Lib.hid (resE_no h4)
      go_wp2_with fail
      go_ret2
      exact ⟨by rw [R1.out, R2.out]; rfl, hbw⟩
end Go.Proofs.YtjalpocjgpgcfaaGreatDoor
set_option linter.unusedVariables false
set_option linter.unusedSimpArgs false
namespace Go.Proofs.YtjalpocjgpgcfaaGreatDoor
open Go Go.RowKit

@[irreducible] def allB (l : List Int) : Bool := decide (∀ t ∈ l, t = 0)
theorem allB_ok {l : List Int} (h : ∀ t ∈ l, t = 0) : allB l = true := by unfold allB; exact decide_eq_true h
theorem allB_no {l : List Int} {t : Int} (h : t ∈ l) (hn : ¬ t = 0) : allB l = false := by unfold allB; exact decide_eq_false (fun c => hn (c t h))
theorem allB_iff {l : List Int} : allB l = true ↔ ∀ t ∈ l, t = 0 := by unfold allB; exact decide_eq_true_iff
/-- A row of error numbers. -/
def Ers (w : World) (A : Nat) (l : List Int) : Prop := A < w.heap.size ∧ ∀ j (h : j < l.length), w.cell? ⟨A, j, none⟩ = some (.int .i64 l[j])
theorem Ers.below {w w' : World} {A : Nat} {l : List Int} (h : Ers w A l) (hb : Below w.heap.size w w') : Ers w' A l :=
  ⟨Nat.lt_of_lt_of_le h.1 hb.size, fun j hj => (hb.cell (p := ⟨A, j, none⟩) h.1).trans (h.2 j hj)⟩
section
variable [Env]
theorem ers_of {w : World} {b : Nat} {l : List Int} {cells : List AV} (hb : b < w.heap.size) (hc : ∀ j v, cells[j]? = some v → w.cell? ⟨b, j, none⟩ = some (gval1 v)) (he : cells.map gval1 = l.map (Value.int .i64)) : Ers w b l := by
  refine ⟨hb, fun j hj => ?_⟩
  have hl : cells.length = l.length := by have := congrArg List.length he; simpa using this
  have hj2 : j < cells.length := by omega
  rw [hc j cells[j] (by rw [List.getElem?_eq_getElem hj2])]
  have h2 : (cells.map gval1)[j]? = (l.map (Value.int .i64))[j]? := by rw [he]
  rw [List.getElem?_map, List.getElem?_map, List.getElem?_eq_getElem hj2, List.getElem?_eq_getElem hj] at h2
  simpa using h2
end
end Go.Proofs.YtjalpocjgpgcfaaGreatDoor
set_option linter.unusedSimpArgs false
set_option linter.unusedVariables false
namespace Go.Proofs.YtjalpocjgpgcfaaGreatDoor
open Go Go.RowKit Nt

theorem below_chain {a b c : World} (h1 : Below a.heap.size a b) (h2 : Below b.heap.size b c) : Below a.heap.size a c := h1.trans (h2.mono h1.size)
theorem nne_true {x : Nat} (h : x ≠ 0) : (((x : Nat) : Int) != 0) = true := by rw [bne_iff_ne]; omega
theorem nne_false {x : Nat} (h : x = 0) : (((x : Nat) : Int) != 0) = false := by subst h; rfl
/-- A slice of the call's own that holds these numbers. -/
def Own (w : World) (B : Nat) (T : TypeId) (k : IntKind) (v : Value) (l : List Nat) : Prop := w.ownsRow B T 1 v l.length (l.map (fun (x : Nat) => Value.int k (x : Int)))
theorem Own.nil (w : World) (B : Nat) (T : TypeId) (k : IntKind) : Own w B T k (.slice none 0 0) [] := World.ownsRow_nil w B T 1
theorem Own.form {w : World} {B : Nat} {T : TypeId} {k : IntKind} {v : Value} {l : List Nat} (h : Own w B T k v l) :
    (v = .slice none 0 0 ∧ l = []) ∨ ∃ g cap cs, v = .slice (some ⟨g, 0, none⟩) l.length cap ∧ B ≤ g ∧ g < w.heap.size ∧ Blk w g T cs ∧ l.length ≤ cap ∧ cap ≤ 9223372036854775807 ∧ ∀ j, (hj : j < l.length) → cs[j]? = some (.int k (l[j] : Nat)) := by
  rcases h.2 with ⟨rfl, h0⟩ | ⟨g, cap, cur, rfl, hB, hh, hn, hm, hs, ht⟩
  · exact Or.inl ⟨rfl, List.eq_nil_of_length_eq_zero h0⟩
  · refine Or.inr ⟨g, cap, cur, rfl, hB, Blk.lt hh, hh, hn, by simpa [maxLen] using hm, fun j hj => ?_⟩
    have e := congrArg (fun x => x[j]?) ht
    simp only [Nat.mul_one] at e
    rw [List.getElem?_take, if_pos hj, List.getElem?_map, List.getElem?_eq_getElem hj] at e
    rw [← Array.getElem?_toList]; exact e
theorem Own.cell {w : World} {B : Nat} {T : TypeId} {k : IntKind} {v : Value} {l : List Nat} (h : Own w B T k v l) {j : Nat} (hj : j < l.length) :
    ∃ g cap, v = .slice (some ⟨g, 0, none⟩) l.length cap ∧ B ≤ g ∧ g < w.heap.size ∧ w.cell? ⟨g, j, none⟩ = some (.int k (l[j] : Nat)) ∧ w.frozen? ⟨g, j, none⟩ = false := by
  rcases h.form with ⟨_, rfl⟩ | ⟨g, cap, cs, rfl, hB, hg, hb, _, _, hc⟩
  · simp at hj
  · exact ⟨g, cap, rfl, hB, hg, by rw [hb.cell, hc j hj], hb.frozen j⟩
theorem Own.below {w w' : World} {B B' : Nat} {T : TypeId} {k : IntKind} {v : Value} {l : List Nat} (h : Own w B T k v l) (hb : Below B' w w') (hB : ∀ g, v.ownBlock = some g → g < B') : Own w' B T k v l := by
  rcases h.2 with ⟨rfl, h0⟩ | ⟨g, cap, cur, rfl, hB1, hh, hn, hm, hs, ht⟩
  · exact ⟨h.1, Or.inl ⟨rfl, h0⟩⟩
  · exact ⟨h.1, Or.inr ⟨g, cap, cur, rfl, hB1, (hb.block g (hB g rfl)).trans hh, hn, hm, hs, ht⟩⟩
theorem Own.base {w : World} {B B' : Nat} {T : TypeId} {k : IntKind} {v : Value} {l : List Nat} (h : Own w B T k v l) (hB : B' ≤ B) : Own w B' T k v l := by
  rcases h.2 with ⟨rfl, h0⟩ | ⟨g, cap, cur, rfl, hB1, hh, hn, hm, hs, ht⟩
  · exact ⟨h.1, Or.inl ⟨rfl, h0⟩⟩
  · exact ⟨h.1, Or.inr ⟨g, cap, cur, rfl, by omega, hh, hn, hm, hs, ht⟩⟩
theorem Own.lt {w : World} {B : Nat} {T : TypeId} {k : IntKind} {v : Value} {l : List Nat} (h : Own w B T k v l) : ∀ g, v.ownBlock = some g → B ≤ g ∧ g < w.heap.size := World.ownsRow.lt h
theorem Own.whole {w w' : World} {B : Nat} {T : TypeId} {k : IntKind} {v : Value} {l : List Nat} (h : Own w B T k v l) (hb : Below w.heap.size w w') : Own w' B T k v l := h.below hb fun g e => (h.lt g e).2
theorem Own.drewN {w : World} {B : Nat} {T : TypeId} {k : IntKind} {v : Value} {l : List Nat} (h : Own w B T k v l) (n : Nat) : Own (w.drewN n) B T k v l := h
theorem Own.len {w : World} {B : Nat} {T : TypeId} {k : IntKind} {v : Value} {l : List Nat} (h : Own w B T k v l) : ∃ A c, v = .slice A l.length c ∧ l.length ≤ c := by
  rcases h.form with ⟨rfl, rfl⟩ | ⟨g, cap, cs, rfl, _, _, _, hc, _⟩
  · exact ⟨none, 0, rfl, Nat.le_refl _⟩
  · exact ⟨_, _, rfl, hc⟩
/-- What an append leaves as it was. -/
def Frm (w0 w' : World) (v : Value) : Prop := ∀ k, k < w0.heap.size → some k ≠ v.ownBlock → w'.heap[k]? = w0.heap[k]?
theorem Frm.cell {w0 w' : World} {v : Value} (h : Frm w0 w' v) {p : Addr} (hp : p.block < w0.heap.size) (hne : some p.block ≠ v.ownBlock) : w'.cell? p = w0.cell? p := World.cell?_of_block (h p.block hp hne)
theorem Row.frm {w0 w' : World} {v : Value} {A : Option Addr} {n L : Nat} (hr : Row w0 w0.heap.size A n L) (h : Frm w0 w' v) (hd : ∀ g, A = some ⟨g, 0, none⟩ → v.ownBlock ≠ some g) (hs : w0.heap.size ≤ w'.heap.size) : Row w' w'.heap.size A n L := fun hL => by
  obtain ⟨g, e, hg, hc⟩ := hr hL
  exact ⟨g, e, by omega, fun j hj => (h.cell (p := ⟨g, j, none⟩) hg (fun c => hd g e c.symm)).trans (hc j hj)⟩
theorem Own.frm {w0 w' : World} {B : Nat} {T : TypeId} {k : IntKind} {v u : Value} {l : List Nat} (ho : Own w0 B T k u l) (h : Frm w0 w' v) (hd : ∀ g, u.ownBlock = some g → v.ownBlock ≠ some g) : Own w' B T k u l := by
  rcases ho.2 with ⟨rfl, h0⟩ | ⟨g, cap, cur, rfl, hB1, hh, hn, hm, hs, ht⟩
  · exact ⟨ho.1, Or.inl ⟨rfl, h0⟩⟩
  · exact ⟨ho.1, Or.inr ⟨g, cap, cur, rfl, hB1, (h g (Blk.lt hh) (fun c => hd g rfl c.symm)).trans hh, hn, hm, hs, ht⟩⟩
/-- 'append(s, x)'. -/
theorem wpList_app1 {P : Program} (w0 : World) {ops : Array Oper} {rest : List Oper} {o : Oper} {a : Act} {Q : Exit → Act → World → Prop} (hgd : o.guard = none) (s x : Operand) (t : TypeId)
    (ho : o.op = .call { callee := .builtin .append, args := #[s, x], argTypes := #[t, t] })
    (B : Nat) (e U : TypeId) (i : TypeInfo) (k : IntKind) (bytes : Nat) (ht : P.underlying t = some (.slice e)) (hi : P.info? e = some i) (hz : i.zero = some (.int k 0))
    (hsize : i.size = 1) (hby : i.bytes = bytes) (hb8 : bytes ≤ 8)
    (v : Value) (l : List Nat) (y : Nat) (hs : a.eval s = v) (hx : a.eval x = .slice (some ⟨w0.heap.size, 0, none⟩) 1 1) (hown : Own w0 B e k v l)
    (hn : l.length + 1 ≤ 17592186044416) (hB : B ≤ w0.heap.size)
    (h : ∀ v' w', Own w' B e k v' (l ++ [y]) → Below B w0 w' → Frm w0 w' v → (∀ g, v'.ownBlock = some g → v.ownBlock = some g ∨ w0.heap.size ≤ g) → wpList P ops Q rest (a.put o.dst v') w') :
    wpList P ops Q (o :: rest) a (w0.alloc (.cells #[.int k (y : Nat)] U)) := by
  have hbytes : (l.length + 1) * bytes ≤ 140737488355328 := by
    have h1 : (l.length + 1) * bytes ≤ (l.length + 1) * 8 := Nat.mul_le_mul_left _ hb8
    omega
  have hown1 : (w0.alloc (.cells #[.int k (y : Nat)] U)).ownsRow B e 1 v l.length (l.map (fun (x : Nat) => Value.int k (x : Int))) := World.ownsRow.alloc hown _
  refine wpList_plain hgd fun _ hK => ?_
  obtain ⟨v', w', hrun, h2, hg, _, h5⟩ := run_append_own_at (P := P) (w0.alloc (.cells #[.int k (y : Nat)] U)) B t o.type e i (.int k 0) 1 bytes ht hi hz hsize hby rfl (by omega) v l.length (l.map (fun (x : Nat) => Value.int k (x : Int))) hown1
    ⟨w0.heap.size, 0, none⟩ 1 1 [.int k (y : Nat)] rfl (by
      intro j u hu
      have hj : j = 0 := by
        rcases Nat.lt_or_ge j 1 with h | h
        · omega
        · rw [List.getElem?_eq_none (by simpa using h)] at hu; cases hu
      subst hj
      rw [add_plain0, World.cell?_alloc_new]
      exact hu) (by
      intro u hu
      rw [List.mem_singleton.1 hu]; rfl) (by simp [maxLen]; omega) hbytes (by simp; omega)
  unfold Oper.wp execOp
  simp only [ho, resolve, invoke, builtin, Sem.run_bind, Sem.run_pure, Result.andThen_ok, List.map_toArray, List.map_cons, List.map_nil, hs, hx, hrun]
  refine hK _ _ (h v' w' ?_ ?_ ?_ ?_)
  · unfold Own
    simpa using h2
  · exact Below.grown ((Below.refl _ _).alloc hB _) hg (by simp; omega) (fun g e => (hown.lt g e).1)
  · intro k' hk hne
    rw [hg.block k' (by simp; omega) hne]
    exact Below.heap_alloc w0 _ k' hk
  · intro g hgo
    rcases h5 with h5 | h5
    · rw [← h5]; exact Or.inl hgo
    · rw [h5] at hgo
      have : g = w0.heap.size + 1 := by simpa using hgo.symm
      exact Or.inr (by omega)
/-- A block of bytes turned round. -/
def TurnPost (g n : Nat) (T : TypeId) (f : Nat → Nat) (w : World) (e : Ending) (w' : World) : Prop :=
  e = .returned (.tuple #[]) ∧ ∃ cs, Blk w' g T cs ∧ (∀ j, j < n → cs[j]? = some (.int .u8 (f (n - 1 - j) : Nat))) ∧ Below g w w'
/-- Where the byte at p stands when i have been exchanged. -/
def swF (f : Nat → Nat) (n i p : Nat) : Nat := if p < i ∨ n - i ≤ p then f (n - 1 - p) else f p
theorem sw_set {cs : Array Value} {n i : Nat} {f : Nat → Nat} (hc : ∀ j, j < n → cs[j]? = some (.int .u8 (swF f n i j : Nat))) (h : i < n - 1 - i) :
    ∀ j, j < n → ((cs.setIfInBounds i (.int .u8 (f (n - 1 - i) : Nat))).setIfInBounds (n - 1 - i) (.int .u8 (f i : Nat)))[j]? = some (.int .u8 (swF f n (i + 1) j : Nat)) := by
  intro j hj
  have hsz : n ≤ cs.size := by
    rcases Nat.lt_or_ge cs.size n with h1 | h1
    · have := hc (n - 1) (by omega)
      rw [Array.getElem?_eq_none (by omega)] at this; cases this
    · exact h1
  rw [Array.getElem?_setIfInBounds, Array.size_setIfInBounds]
  by_cases h1 : n - 1 - i = j
  · rw [if_pos h1, if_pos (by omega)]
    unfold swF
    rw [if_pos (by omega)]
    congr 4; omega
  · rw [if_neg h1, Array.getElem?_setIfInBounds]
    by_cases h2 : i = j
    · rw [if_pos h2, if_pos (by omega)]
      unfold swF
      rw [if_pos (by omega), h2]
    · rw [if_neg h2, hc j hj]
      unfold swF
      by_cases h3 : j < i ∨ n - i ≤ j
      · rw [if_pos h3, if_pos (by omega)]
      · rw [if_neg h3, if_neg (by omega)]
end Go.Proofs.YtjalpocjgpgcfaaGreatDoor
set_option linter.unusedSimpArgs false
set_option linter.unusedVariables false
namespace Go.Proofs.YtjalpocjgpgcfaaGreatDoor
open Go Go.RowKit Nt

@[irreducible] def T19 : Nat := 10000000000000000000
theorem T19_eq : T19 = 10000000000000000000 := by unfold T19; rfl
theorem T19_pow : T19 = 10 ^ 19 := by rw [T19_eq]
/-- The decimal digits, the lowest first, as bytes. -/
def digs (n L : Nat) : List Nat := (dl 10 n L).map (48 + ·)
theorem digs_zero (n : Nat) : digs n 0 = [] := rfl
theorem digs_succ (n L : Nat) : digs n (L + 1) = digs n L ++ [48 + dgt 10 n L] := by unfold digs; rw [dl_succ, List.map_append]; rfl
theorem digs_length (n L : Nat) : (digs n L).length = L := by unfold digs; rw [List.length_map, dl_length]
theorem digs_get (n L j : Nat) (h : j < (digs n L).length) : (digs n L)[j] = 48 + dgt 10 n j := by
  have hj : j < L := by rwa [digs_length] at h
  have e : (digs n L)[j]? = some (48 + dgt 10 n j) := by unfold digs; rw [List.getElem?_map, dl_get? _ _ _ _ hj]; rfl
  rw [List.getElem?_eq_getElem h] at e
  exact Option.some.inj e
/-- The decimal text. -/
@[irreducible] def decS (n : Nat) : ByteArray := if n = 0 then ⟨#[48]⟩ else ⟨((digs n (nd 10 n)).reverse.map UInt8.ofNat).toArray⟩
theorem decS_zero : decS 0 = ⟨#[48]⟩ := by unfold decS; rw [if_pos rfl]
theorem decS_pos {n : Nat} (h : n ≠ 0) : decS n = ⟨((digs n (nd 10 n)).reverse.map UInt8.ofNat).toArray⟩ := by unfold decS; rw [if_neg h]
/-- What is left of a chunk. -/
@[irreducible] def lowV (n L i : Nat) : Nat := n / 10 ^ (L + i) % 10 ^ (19 - i)
theorem lowV_def (n L i : Nat) : lowV n L i = n / 10 ^ (L + i) % 10 ^ (19 - i) := by unfold lowV; rfl
theorem lowV_lt (n L i : Nat) : lowV n L i < 10000000000000000000 := by
  rw [lowV_def]
  refine Nat.lt_of_lt_of_le (Nat.mod_lt _ (Nat.pow_pos (by omega))) ?_
  have : (10 : Nat) ^ (19 - i) ≤ 10 ^ 19 := Nat.pow_le_pow_right (by omega) (by omega)
  exact Nat.le_trans this (by decide)
theorem low_start (n L : Nat) : n / 10 ^ L % T19 = lowV n L 0 := by rw [lowV_def, T19_pow]; rfl
theorem low_digit (n L i : Nat) (hi : i < 19) : lowV n L i % 10 = dgt 10 n (L + i) := by
  obtain ⟨k, hk⟩ : ∃ k, 19 - i = k + 1 := ⟨18 - i, by omega⟩
  rw [lowV_def, hk, dgt_def, Nat.pow_succ, Nat.mul_comm, Nat.mod_mul_right_mod]
theorem low_next (n L i : Nat) (hi : i < 19) : lowV n L i / 10 = lowV n L (i + 1) := by
  obtain ⟨k, hk⟩ : ∃ k, 19 - i = k + 1 := ⟨18 - i, by omega⟩
  rw [lowV_def, lowV_def, hk, show 19 - (i + 1) = k by omega, show L + (i + 1) = L + i + 1 by omega, Nat.pow_succ 10 (L + i), ← Nat.div_div_eq_div_mul, Nat.pow_succ, Nat.mul_comm, Nat.mod_mul_right_div_self]
theorem low_whole (n L i : Nat) (hi : i ≤ 19) : n / 10 ^ (L + i) = lowV n L i + 10 ^ (19 - i) * (n / 10 ^ (L + 19)) := by
  rw [lowV_def, show L + 19 = (L + i) + (19 - i) by omega, Nat.pow_add 10 (L + i), ← Nat.div_div_eq_div_mul]
  exact (Nat.mod_add_div _ _).symm
theorem low_done {n L i : Nat} (hi : i ≤ 19) (h1 : n / 10 ^ (L + 19) = 0) (h2 : lowV n L i = 0) : n / 10 ^ (L + i) = 0 := by rw [low_whole n L i hi, h1, h2]; simp
theorem low_more {n L i : Nat} (hi : i ≤ 19) (h : n / 10 ^ (L + 19) ≠ 0 ∨ lowV n L i ≠ 0) : L + i < nd 10 n := by
  refine (pow_le_iff (by omega) _ _).1 ?_
  have h3 : n / 10 ^ (L + i) ≠ 0 := by
    rw [low_whole n L i hi]
    rcases h with h | h
    · have := Nat.mul_pos (Nat.pow_pos (n := 19 - i) (show 0 < 10 by omega)) (Nat.pos_of_ne_zero h); omega
    · omega
  rcases Nat.lt_or_ge n (10 ^ (L + i)) with h4 | h4
  · exact absurd (Nat.div_eq_of_lt h4) h3
  · exact h4
end Go.Proofs.YtjalpocjgpgcfaaGreatDoor
set_option linter.unusedSimpArgs false
set_option linter.unusedVariables false
namespace Go.Proofs.YtjalpocjgpgcfaaGreatDoor
open Go Go.RowKit Nt

/-- What a division leaves. -/
def DivPost (q r : Nat) (w : World) (e : Ending) (w' : World) : Prop :=
  ∃ A c A' c', e = .returned (.tuple #[.slice A (nd W q) c, .slice A' (nd W r) c']) ∧ nd W q ≤ c ∧ nd W r ≤ c' ∧ Row w' w'.heap.size A q (nd W q) ∧ Row w' w'.heap.size A' r (nd W r) ∧ Below w.heap.size w w'
theorem one_word {b : Nat} (h : nd W b = 1) : dgt W b 0 = b ∧ b ≠ 0 ∧ b < 18446744073709551616 := by
  have h1 : b < W ^ 1 := (lt_pow_iff W2 1 b).2 (by omega)
  rw [Nat.pow_one] at h1
  refine ⟨by rw [dgt_def, Nat.pow_zero, Nat.div_one, Nat.mod_eq_of_lt h1], fun c => ?_, by rw [← W_eq]; exact h1⟩
  subst c; rw [nd_zero] at h; omega
/-- Two texts and an error. -/
def Str2Post (s t : ByteArray) (r : Int) (w : World) (e : Ending) (w' : World) : Prop := e = .returned (.tuple #[.string s, .string t, .int .i64 r]) ∧ Below w.heap.size w w'
theorem bodyPost3 : True := trivial
end Go.Proofs.YtjalpocjgpgcfaaGreatDoor
set_option linter.unusedSimpArgs false
set_option linter.unusedVariables false
namespace Go.Proofs.YtjalpocjgpgcfaaGreatDoor
open Go Go.RowKit Nt

@[irreducible] def KA : Nat := 9223372036854775808
@[irreducible] def KB : Nat := 10
@[irreducible] def KP : Nat := 92233720368547758080
@[irreducible] def KQ : Nat := 13176245766935394011
theorem KA_eq : KA = 9223372036854775808 := by unfold KA; rfl
theorem KB_eq : KB = 10 := by unfold KB; rfl
theorem KP_eq : KP = 92233720368547758080 := by unfold KP; rfl
theorem KQ_eq : KQ = 13176245766935394011 := by unfold KQ; rfl
theorem KA_int : ((KA : Nat) : Int) = 9223372036854775808 := by rw [KA_eq]; rfl
theorem KB_int : ((KB : Nat) : Int) = 10 := by rw [KB_eq]; rfl
theorem K_mul : KA * KB = KP := by rw [KA_eq, KB_eq, KP_eq]
theorem K_div : KP / 7 = KQ := by rw [KP_eq, KQ_eq]
theorem K_mod : KP % 7 = 3 := by rw [KP_eq]
theorem fits_of_lt {n : Nat} (k : Nat) (h : n < 256 ^ k) (hk : k ≤ 16384) : fits n := by
  have := nd_le (b := 256) (by omega) h; unfold fits; omega
theorem fits_KA : fits KA := fits_of_lt 8 (by rw [KA_eq]; decide) (by omega)
theorem fits_KB : fits KB := fits_of_lt 8 (by rw [KB_eq]; decide) (by omega)
theorem fits_KP : fits KP := fits_of_lt 9 (by rw [KP_eq]; decide) (by omega)
theorem fits_7 : fits 7 := fits_of_lt 1 (by decide) (by omega)
theorem nd_KQ : nd 256 KQ = 8 := nd_unique (b := 256) (k := 7) (by omega) (by rw [KQ_eq]; decide) (by rw [KQ_eq]; decide)
theorem ndW_KP : nd W KP ≤ 2 := nd_le W2 (by rw [W_eq, KP_eq]; decide)
theorem ndW_7 : nd W 7 = 1 := nd_unique (b := W) (k := 0) W2 (by decide) (by rw [W_eq]; decide)
theorem natS_one {n : Nat} (h0 : 1 ≤ n) (h : n < 256) : natS n = ⟨#[UInt8.ofNat n]⟩ := by
  have e : nd 256 n = 1 := nd_unique (b := 256) (k := 0) (by omega) (by simpa using h0) (by simpa using h)
  rw [natS_def, e]
  have : dl 256 n 1 = [n] := by
    unfold dl; simp [List.range_succ, dgt_def, Nat.mod_eq_of_lt h]
  rw [this]; rfl
theorem natS_3 : natS 3 = ⟨#[3]⟩ := natS_one (by omega) (by omega)
theorem natS_1 : natS 1 = ⟨#[1]⟩ := natS_one (by omega) (by omega)
def KL : List Nat := [0, 8, 0, 8, 5, 7, 7, 4, 5, 8, 6, 3, 0, 2, 7, 3, 3, 2, 2, 9]
theorem KL_of : of 10 KL = KP := by rw [KP_eq]; decide
theorem dec_KP : decS KP = ⟨#[57, 50, 50, 51, 51, 55, 50, 48, 51, 54, 56, 53, 52, 55, 55, 53, 56, 48, 56, 48]⟩ := by
  have h0 : KP ≠ 0 := by rw [KP_eq]; decide
  have e : nd 10 KP = 20 := nd_unique (b := 10) (k := 19) (by omega) (by rw [KP_eq]; decide) (by rw [KP_eq]; decide)
  have h := dl_of (b := 10) (by omega) KL (by decide)
  rw [KL_of] at h
  rw [decS_pos h0, e]
  unfold digs
  rw [show (20 : Nat) = KL.length from rfl, h]
  decide
theorem may_zero : ¬ May ⟨#[0]⟩ := fun h => h.2 (by decide) (by decide)
theorem Of_KA (w : World) : Calls Tryz.prog 53 #[.int .u64 9223372036854775808] w fun e w' => e = .returned (.string (natS KA)) ∧ Below w.heap.size w w' := by
  have h := Of_n KA w (by rw [KA_eq]; decide)
  rw [KA_int] at h; exact h
theorem Of_KB (w : World) : Calls Tryz.prog 53 #[.int .u64 10] w fun e w' => e = .returned (.string (natS KB)) ∧ Below w.heap.size w w' := by
  have h := Of_n KB w (by rw [KB_eq]; decide)
  rw [KB_int] at h; exact h
theorem Of_7 (w : World) : Calls Tryz.prog 53 #[.int .u64 7] w fun e w' => e = .returned (.string (natS 7)) ∧ Below w.heap.size w w' := Of_n 7 w (by decide)
theorem Mul_K (w : World) : Calls Tryz.prog 133 #[.string (natS KA), .string (natS KB)] w (StrPost (natS KP) 0 w) := by
  have h := NMul_c KA KB w fits_KA fits_KB
  rw [K_mul, resS_ok fits_KP, resE_ok fits_KP] at h; exact h
theorem Check_K (w : World) : Calls Tryz.prog 54 #[.string ⟨#[0]⟩] w fun e w' => e = .returned (.int .i64 2) ∧ Below w.heap.size w w' := by
  have h := Check_c ⟨#[0]⟩ w
  rw [may1_no may_zero] at h; exact h
end Go.Proofs.YtjalpocjgpgcfaaGreatDoor
set_option linter.unusedSimpArgs false
set_option linter.unusedVariables false
namespace Go.Proofs.YtjalpocjgpgcfaaGreatDoor
open Go Go.RowKit Nt

@[irreducible] def mayB (s : ByteArray) : Bool := decide (May s)
theorem mayB_yes {s : ByteArray} (h : May s) : mayB s = true := by unfold mayB; exact decide_eq_true h
theorem mayB_no {s : ByteArray} (h : ¬ May s) : mayB s = false := by unfold mayB; exact decide_eq_false h
theorem toList_empty {s : ByteArray} (h : s.size = 0) : s.toList = [] := by
  rw [ba_toList]; exact List.eq_nil_of_length_eq_zero (by rw [Array.length_toList]; exact h)
theorem toList_full {s : ByteArray} (h : 0 < s.size) : ¬ s.toList = [] := fun c => by
  rw [ba_toList] at c
  have : s.data.toList.length = 0 := by rw [c]; rfl
  rw [Array.length_toList] at this
  have h2 : s.size = s.data.size := rfl
  omega
theorem toList_full2 {s : ByteArray} (h : 0 < s.size) : s.toList.isEmpty = false := by
  have := toList_full h
  cases h2 : s.toList with
  | nil => exact absurd h2 this
  | cons x l => rfl
@[irreducible] def refB (ss : List ByteArray) : Bool := decide (∃ s ∈ ss, ¬ May s)
theorem refB_yes {ss : List ByteArray} {s : ByteArray} (h : s ∈ ss) (hs : ¬ May s) : refB ss = true := by unfold refB; exact decide_eq_true ⟨s, h, hs⟩
theorem refB_no {ss : List ByteArray} (h : ∀ s ∈ ss, May s) : refB ss = false := by unfold refB; exact decide_eq_false (fun ⟨s, h1, h2⟩ => h2 (h s h1))
end Go.Proofs.YtjalpocjgpgcfaaGreatDoor
set_option linter.unusedSimpArgs false
set_option linter.unusedVariables false
namespace Go.Proofs.YtjalpocjgpgcfaaGreatDoor
open Go Go.RowKit Nt

theorem drawn_below {w w' : World} (h : Drawn w w') : Below w.heap.size w w' := by obtain ⟨n, rfl⟩ := h; exact below_drewN (Below.refl _ _) n
theorem beq_self_int (z : Int) : (z == z) = true := by simp
end Go.Proofs.YtjalpocjgpgcfaaGreatDoor
set_option linter.unusedSimpArgs false
set_option linter.unusedVariables false
namespace Go.Proofs.YtjalpocjgpgcfaaGreatDoor
open Go Go.RowKit Nt

set_option maxRecDepth 100000 in
theorem NLen_no (s : ByteArray) (w : World) (h : ¬ May s) :
    Calls Tryz.prog 114 #[.string s] w (IntPost 0 2 w) := by
  have hm := may1_no h
  go_enter Tryz.func114, Tryz.ntmps114
  go_wp2_with (go_at_call 54; refine (Check_c _ _).mono ?_; rintro e w1 ⟨rfl, hb⟩)
  go_ret2
  exact ⟨rfl, hb⟩
set_option maxRecDepth 100000 in
theorem NLen_c (n : Nat) (w : World) (hf : fits n) :
    Calls Tryz.prog 114 #[.string (natS n)] w (IntPost (nd 2 n : Nat) 0 w) := by
  have hm := may1 hf
  by_cases h0 : n = 0
  · have hE := natS_empty h0
    have HZ := Lib.hid (show nd 2 n = 0 by rw [h0, nd_zero])
    clear h0
    go_enter Tryz.func114, Tryz.ntmps114
    go_wp2_with (go_at_call 54; refine (Check_c _ _).mono ?_; rintro e w1 ⟨rfl, hb⟩)
    go_ret2
    exact ⟨by rw [HZ.out]; rfl, hb⟩
  · have hE := natS_full h0
    have hE2 := natS_full2 h0
    have hsz := natS_size n
    obtain ⟨L, hL⟩ : ∃ L, nd 256 n = L + 1 := ⟨nd 256 n - 1, by
      rcases Nat.eq_zero_or_pos (nd 256 n) with h | h
      · exact absurd ((nd_eq_zero (by omega)).1 h) h0
      · omega⟩
    have HT := Lib.hid (nd_top (b := 2) (c := 256) (e := 8) (by omega) (by omega) (by rfl) n h0)
    have hp : 0 < (natS n).size := by omega
    have hg := natS_get n 0 hp
    unfold fits at hf
    rw [hL] at hsz hg HT hf
    have hlt : (natS n)[0].toNat < 256 := (natS n)[0].toNat_lt
    have hbl := bitLen_nd (x := (natS n)[0].toNat) (by omega)
    have hle : nd 2 (natS n)[0].toNat ≤ 8 := nd_le (by omega) (by omega)
    have hfin : 8 * (L : Int) + (Go.Lib.bitLen (natS n)[0].toNat : Int) = (nd 2 n : Int) := by
      have h1 := HT.out
      rw [Nat.add_sub_cancel, Nat.sub_zero] at hg
      rw [Nat.add_sub_cancel, ← hg] at h1
      rw [hbl, h1]; omega
    have hle2 : Go.Lib.bitLen (natS n)[0].toNat ≤ 8 := by rw [hbl]; exact hle
    have HF := Lib.hid hfin
    clear hfin hg hbl hle h0
    go_enter Tryz.func114, Tryz.ntmps114
    go_wp2_with (first | (go_at_call 54; refine (Check_c _ _).mono ?_; rintro e w1 ⟨rfl, hb⟩) | (go_at_call 131; refine (Tryz.bits_Len8 _ _ (by omega) (by omega)).mono ?_; rintro e w' ⟨rfl, rfl⟩))
    go_ret2
    refine ⟨?_, hb⟩
    have h2 := HF.out
    simp only [Int.toNat_natCast]
    rw [← h2]; rfl
end Go.Proofs.YtjalpocjgpgcfaaGreatDoor
set_option linter.unusedSimpArgs false
set_option linter.unusedVariables false
namespace Go.Proofs.YtjalpocjgpgcfaaGreatDoor
open Go Go.RowKit Nt

theorem nd_mul_pow {a j : Nat} (ha : a ≠ 0) : nd 2 (a * 2 ^ j) = nd 2 a + j := by
  obtain ⟨m, hm⟩ : ∃ m, nd 2 a = m + 1 := ⟨nd 2 a - 1, by
    rcases Nat.eq_zero_or_pos (nd 2 a) with h | h
    · exact absurd ((nd_eq_zero (by omega)).1 h) ha
    · omega⟩
  have h1 := lt_nd (b := 2) (n := a) (by omega)
  have h2 := (pow_le_iff (b := 2) (by omega) m a).2 (by omega)
  rw [hm] at h1
  rw [hm, show m + 1 + j = m + j + 1 by omega]
  refine nd_unique (by omega) ?_ ?_
  · rw [Nat.pow_add]; exact Nat.mul_le_mul_right _ h2
  · rw [show m + j + 1 = m + 1 + j by omega, Nat.pow_add]; exact (Nat.mul_lt_mul_right (Nat.two_pow_pos j)).2 h1
theorem fits_shift {a j : Nat} (ha : a ≠ 0) : fits (a * 2 ^ j) ↔ nd 2 a + j ≤ 131072 := by
  unfold fits
  rw [← bits_le, nd_mul_pow ha]
set_option maxRecDepth 100000 in
theorem NShift_no (s : ByteArray) (k : Int) (w : World) (h : ¬ May s) :
    Calls Tryz.prog 84 #[.string s, .int .i64 k] w (StrPost ⟨#[]⟩ 2 w) := by
  have H := Lib.hid h
  clear h
  go_enter Tryz.func84, Tryz.ntmps84
  go_wp2_with (go_at_call 114; refine (NLen_no _ _ H.out).mono ?_; rintro e w1 ⟨rfl, hb⟩)
  go_ret2
  exact ⟨rfl, hb⟩
set_option maxRecDepth 100000 in
theorem NShift_zero (k : Int) (w : World) :
    Calls Tryz.prog 84 #[.string (natS 0), .int .i64 k] w (StrPost (natS 0) 0 w) := by
  have hf : fits 0 := by unfold fits; rw [nd_zero]; omega
  have hE := natS_empty (n := 0) rfl
  go_enter Tryz.func84, Tryz.ntmps84
  go_wp2_with (go_at_call 114; refine (NLen_c _ _ hf).mono ?_; rintro e w1 ⟨rfl, hb⟩)
  go_ret2
  exact ⟨rfl, hb⟩
set_option maxRecDepth 100000 in
theorem NShift_stay (a : Nat) (w : World) (hf : fits a) (ha : a ≠ 0) :
    Calls Tryz.prog 84 #[.string (natS a), .int .i64 0] w (StrPost (natS a) 0 w) := by
  have hE := natS_full ha
  have hE2 := natS_full2 ha
  go_enter Tryz.func84, Tryz.ntmps84
  go_wp2_with (go_at_call 114; refine (NLen_c _ _ hf).mono ?_; rintro e w1 ⟨rfl, hb⟩)
  go_ret2
  exact ⟨rfl, hb⟩
theorem bits_131072 {a : Nat} (hf : fits a) : nd 2 a ≤ 131072 := (bits_le a 16384).2 hf
set_option maxRecDepth 100000 in
theorem NShift_far (a : Nat) (k : Int) (w : World) (hf : fits a) (ha : a ≠ 0) (hk : k < 0) (hk2 : k ≤ -(nd 2 a : Int)) :
    Calls Tryz.prog 84 #[.string (natS a), .int .i64 k] w (StrPost ⟨#[]⟩ 0 w) := by
  have hE := natS_full ha
  have hE2 := natS_full2 ha
  have hz : (k == 0) = false := by rw [beq_eq_false_iff_ne]; omega
  have hl := bits_131072 hf
  have hw : wrap64 (-(nd 2 a : Int)) = -(nd 2 a : Int) := IntWalk.wrap64_in _ (by omega)
  go_enter Tryz.func84, Tryz.ntmps84
  go_wp2_with (go_at_call 114; refine (NLen_c _ _ hf).mono ?_; rintro e w1 ⟨rfl, hb⟩)
  go_ret2
  exact ⟨rfl, hb⟩
set_option maxRecDepth 100000 in
set_option maxHeartbeats 1000000 in
theorem NShift_down (a j : Nat) (w : World) (hf : fits a) (ha : a ≠ 0) (hj : 0 < j) (hj2 : j < nd 2 a) :
    Calls Tryz.prog 84 #[.string (natS a), .int .i64 (-(j : Int))] w (StrPost (natS (a / 2 ^ j)) 0 w) := by
  have hE := natS_full ha
  have hE2 := natS_full2 ha
  have hl := bits_131072 hf
  obtain ⟨z, hz⟩ : ∃ z : Int, z = -(j : Int) := ⟨_, rfl⟩
  have z1 : (z == 0) = false := by rw [beq_eq_false_iff_ne]; omega
  have z2 : z < 0 := by omega
  have z3 : ¬ z ≤ -(nd 2 a : Int) := by omega
  have hw : wrap64 (-(nd 2 a : Int)) = -(nd 2 a : Int) := IntWalk.wrap64_in _ (by omega)
  have hw2 : wrap64 (-z) = (j : Int) := by rw [IntWalk.wrap64_in _ (by omega)]; omega
  have hfd := fits_le hf (Nat.div_le_self a (2 ^ j))
  have R1 := Lib.hid (resS_ok hfd)
  have R2 := Lib.hid (resE_ok hfd)
  have hwa := Lib.hid (fits_words hf)
  have hwd := Lib.hid (fits_words hfd)
  have HJ := Lib.hid (show j ≤ 1000000000000 by omega)
  rw [← hz]
  clear hz hj hj2 hl ha hfd
  go_enter Tryz.func84, Tryz.ntmps84
  go_upto_region 9 with (go_at_call 114; refine (NLen_c _ _ hf).mono ?_; rintro e w1 ⟨rfl, hb1⟩)
  go_wp2_with fail
  refine (words_c a _ hf).mono ?_
  intro e w2 hp
  obtain ⟨A1, c1, rfl, hc1, hr1, hb2⟩ := hp.get
  have HR1 := Lib.hid hr1
  clear hr1 hp
  go_wp2_with fail
  refine (Shr_c A1 c1 a j w2.heap.size w2 HJ.out (by have := hwa.out; omega) HR1.out (Nat.le_refl _)).mono ?_
  intro e w3 hp
  obtain ⟨A2, c2, rfl, hc2, hr2, hb3⟩ := hp.get
  have HR2 := Lib.hid hr2
  clear hr2 hp
  go_wp2_with fail
  refine (made_c A2 c2 (a / 2 ^ j) w3.heap.size w3 (by have := hwd.out; omega) HR2.out (Nat.le_refl _)).mono ?_
  rintro e w4 ⟨rfl, hb4⟩
  go_wp2_with fail
  go_ret2
  exact ⟨by rw [R1.out, R2.out]; rfl, below_chain hb1 (below_chain hb2 (below_chain hb3 hb4))⟩
@[irreducible] def overB (k : Nat) (l : Nat) : Bool := decide ((131072 : Int) - (l : Int) < (k : Int))
set_option maxRecDepth 100000 in
set_option maxHeartbeats 1000000 in
theorem NShift_long (a j : Nat) (w : World) (hf : fits a) (ha : a ≠ 0) (hj : 0 < j) (hj2 : ¬ fits (a * 2 ^ j)) (hjm : j ≤ 9223372036854775807) :
    Calls Tryz.prog 84 #[.string (natS a), .int .i64 (j : Nat)] w (StrPost ⟨#[]⟩ 4 w) := by
  have hE := natS_full ha
  have hE2 := natS_full2 ha
  have hl := bits_131072 hf
  rw [fits_shift ha] at hj2
  have z1 : ((j : Int) == 0) = false := by rw [beq_eq_false_iff_ne]; omega
  have z2 : ¬ (j : Int) < 0 := by omega
  have hw : wrap64 (131072 - (nd 2 a : Int)) = 131072 - (nd 2 a : Int) := IntWalk.wrap64_in _ (by omega)
  have hT : decide ((131072 : Int) - (nd 2 a : Int) < (j : Int)) = true := decide_eq_true (by omega)
  have hT2 : (131072 : Int) - (nd 2 a : Int) < (j : Int) := by omega
  clear hj2
  go_enter Tryz.func84, Tryz.ntmps84
  go_wp2_with (go_at_call 114; refine (NLen_c _ _ hf).mono ?_; rintro e w1 ⟨rfl, hb1⟩)
  go_ret2
  exact ⟨rfl, hb1⟩
set_option maxRecDepth 100000 in
set_option maxHeartbeats 1000000 in
theorem NShift_up (a j : Nat) (w : World) (hf : fits a) (ha : a ≠ 0) (hj : 0 < j) (hj2 : fits (a * 2 ^ j)) :
    Calls Tryz.prog 84 #[.string (natS a), .int .i64 (j : Nat)] w (StrPost (natS (a * 2 ^ j)) 0 w) := by
  have hE := natS_full ha
  have hE2 := natS_full2 ha
  have hl := bits_131072 hf
  have R1 := Lib.hid (resS_ok hj2)
  have R2 := Lib.hid (resE_ok hj2)
  have hwm := Lib.hid (fits_words hj2)
  have hwa := Lib.hid (fits_words hf)
  rw [fits_shift ha] at hj2
  have hj3 : j ≤ 131072 := by omega
  have z1 : ((j : Int) == 0) = false := by rw [beq_eq_false_iff_ne]; omega
  have z2 : ¬ (j : Int) < 0 := by omega
  have hw : wrap64 (131072 - (nd 2 a : Int)) = 131072 - (nd 2 a : Int) := IntWalk.wrap64_in _ (by omega)
  have hT2 : ¬ (131072 : Int) - (nd 2 a : Int) < (j : Int) := by omega
  have HJ := Lib.hid (show nd W a + j / 64 ≤ 1000000000 by have := hwa.out; omega)
  clear hj2 hj3
  go_enter Tryz.func84, Tryz.ntmps84
  go_upto_region 12 with (go_at_call 114; refine (NLen_c _ _ hf).mono ?_; rintro e w1 ⟨rfl, hb1⟩)
  go_wp2_with fail
  refine (words_c a _ hf).mono ?_
  intro e w2 hp
  obtain ⟨A1, c1, rfl, hc1, hr1, hb2⟩ := hp.get
  have HR1 := Lib.hid hr1
  clear hr1 hp
  go_wp2_with fail
  refine (Shl_c A1 c1 a j w2.heap.size w2 HJ.out HR1.out (Nat.le_refl _)).mono ?_
  intro e w3 hp
  obtain ⟨A2, c2, rfl, hc2, hr2, hb3⟩ := hp.get
  have HR2 := Lib.hid hr2
  clear hr2 hp
  go_wp2_with fail
  refine (made_c A2 c2 (a * 2 ^ j) w3.heap.size w3 (by have := hwm.out; omega) HR2.out (Nat.le_refl _)).mono ?_
  rintro e w4 ⟨rfl, hb4⟩
  go_wp2_with fail
  go_ret2
  exact ⟨by rw [R1.out, R2.out]; rfl, below_chain hb1 (below_chain hb2 (below_chain hb3 hb4))⟩
end Go.Proofs.YtjalpocjgpgcfaaGreatDoor
set_option linter.unusedSimpArgs false
set_option linter.unusedVariables false
namespace Go.Proofs.YtjalpocjgpgcfaaGreatDoor
open Go Go.RowKit Nt

theorem half_step (n m : Nat) : n / 2 ^ m = 2 * (n / 2 ^ (m + 1)) + n / 2 ^ m % 2 := by
  rw [Nat.pow_succ, ← Nat.div_div_eq_div_mul]; omega
theorem pow_even {a n m : Nat} (h : n / 2 ^ m % 2 = 0) : a ^ (n / 2 ^ (m + 1)) * a ^ (n / 2 ^ (m + 1)) = a ^ (n / 2 ^ m) := by
  rw [← Nat.pow_add]; congr 1; have := half_step n m; omega
theorem pow_odd {a n m : Nat} (h : n / 2 ^ m % 2 = 1) : a ^ (n / 2 ^ (m + 1)) * a ^ (n / 2 ^ (m + 1)) * a = a ^ (n / 2 ^ m) := by
  rw [← Nat.pow_add, ← Nat.pow_succ]; congr 1; have := half_step n m; omega
theorem pow_le_one {a n : Nat} (h : nd 2 a ≤ 1) (hn : n ≠ 0) : a ^ n = a := by
  have := (lt_pow_iff (b := 2) (by omega) 1 a).2 h
  have : a = 0 ∨ a = 1 := by omega
  rcases this with rfl | rfl
  · exact Nat.zero_pow (by omega)
  · exact Nat.one_pow n
theorem pow_big {a n : Nat} (h1 : 2 ≤ nd 2 a) (h2 : 131072 ≤ (nd 2 a - 1) * n) : ¬ fits (a ^ n) := by
  unfold fits
  rw [← bits_le]
  have h3 := (pow_le_iff (b := 2) (by omega) (nd 2 a - 1) a).2 (by omega)
  have h4 : 2 ^ ((nd 2 a - 1) * n) ≤ a ^ n := by rw [Nat.pow_mul]; exact Nat.pow_le_pow_left h3 n
  have h5 := (pow_le_iff (b := 2) (by omega) _ _).1 h4
  omega
theorem pow_words {a n e : Nat} (hn : (nd 2 a - 1) * n < 131072) (h1 : 1 ≤ nd 2 a) (hn2 : n < 131072) (he : e ≤ n) (ha : a ≠ 0) : nd W (a ^ e) ≤ 262144 := by
  have h2 := lt_nd (b := 2) (n := a) (by omega)
  have h3 : a ^ e ≤ (2 ^ nd 2 a) ^ e := Nat.pow_le_pow_left (Nat.le_of_lt h2) e
  rw [← Nat.pow_mul] at h3
  have h4 : nd 2 a * e ≤ nd 2 a * n := Nat.mul_le_mul_left _ he
  have h5 : nd 2 a * n = (nd 2 a - 1) * n + n := by
    obtain ⟨q, hq⟩ : ∃ q, nd 2 a = q + 1 := ⟨nd 2 a - 1, by omega⟩
    rw [hq, Nat.add_sub_cancel, Nat.succ_mul]
  have h6 : nd W (a ^ e) ≤ nd 2 (a ^ e) := by
    refine nd_le W2 (Nat.lt_of_lt_of_le (lt_nd (b := 2) (by omega)) (Nat.pow_le_pow_left ?_ _))
    rw [W_eq]; omega
  have h7 : nd 2 (a ^ e) ≤ nd 2 a * e + 1 := nd_le (by omega) (by rw [Nat.pow_succ]; have := Nat.two_pow_pos (nd 2 a * e); omega)
  omega
theorem and_one_i64 (q : Nat) (hq : q < 9223372036854775808) : bits BinOp.and IntKind.i64 (q : Int) 1 = ((q % 2 : Nat) : Int) := by
  have h1 : (BitVec.ofInt 64 (q : Int)).toNat = q := by
    rw [BitVec.ofInt_natCast, BitVec.toNat_ofNat]; exact Nat.mod_eq_of_lt (by omega)
  have h2 : (BitVec.ofInt 64 (1 : Int)).toNat = 1 := by decide
  show IntKind.i64.wrap ((BitVec.ofInt 64 (q : Int) &&& BitVec.ofInt 64 (1 : Int)).toNat : Int) = _
  rw [BitVec.toNat_and, h1, h2, Nat.and_one_is_mod, IntKind.wrap_i64]
  omega
theorem Of_1 (w : World) : Calls Tryz.prog 53 #[.int .u64 1] w fun e w' => e = .returned (.string (natS 1)) ∧ Below w.heap.size w w' := Of_n 1 w (by decide)
@[irreducible] def maxB (z : Int) : Bool := decide (131072 ≤ z)
@[local go_sem] theorem ge_maxB (z : Int) : decide ((131072 : Int) ≤ z) = maxB z := by unfold maxB; rfl
end Go.Proofs.YtjalpocjgpgcfaaGreatDoor
set_option linter.unusedSimpArgs false
set_option linter.unusedVariables false
namespace Go.Proofs.YtjalpocjgpgcfaaGreatDoor
open Go Go.RowKit Nt

theorem byte_bit (n q r : Nat) (hr : r < 8) : dgt 256 n q / 2 ^ r % 2 = dgt 2 n (8 * q + r) := by
  have := dgt_in (b := 2) (e := 8) (by omega) n q r hr
  rw [show (2 : Nat) ^ 8 = 256 from rfl, dgt_def 2 (dgt 256 n q)] at this
  exact this
theorem and_one_u8 (q : Nat) (hq : q < 256) : bits BinOp.and IntKind.u8 (q : Int) 1 = ((q % 2 : Nat) : Int) := by
  have h1 : (BitVec.ofInt 8 (q : Int)).toNat = q := by
    rw [BitVec.ofInt_natCast, BitVec.toNat_ofNat]; exact Nat.mod_eq_of_lt (by omega)
  have h2 : (BitVec.ofInt 8 (1 : Int)).toNat = 1 := by decide
  show IntKind.u8.wrap ((BitVec.ofInt 8 (q : Int) &&& BitVec.ofInt 8 (1 : Int)).toNat : Int) = _
  rw [BitVec.toNat_and, h1, h2, Nat.and_one_is_mod, wrap_u8]
  omega
/-- The bits of a number. -/
def BitPost (b : Nat) (r : Int) (w : World) (e : Ending) (w' : World) : Prop := e = .returned (.tuple #[.int .u8 (b : Nat), .int .i64 r]) ∧ Below w.heap.size w w'
theorem bit_above {n i : Nat} (h : ¬ i / 8 < nd 256 n) : dgt 2 n i = 0 := by
  refine dgt_big (by omega) ?_
  have := bytes_bits n
  omega
set_option maxRecDepth 100000 in
theorem NBit_no (s : ByteArray) (i : Int) (w : World) (h : ¬ May s) :
    Calls Tryz.prog 146 #[.string s, .int .i64 i] w (BitPost 0 2 w) := by
  have hm := may1_no h
  go_enter Tryz.func146, Tryz.ntmps146
  go_wp2_with (go_at_call 54; refine (Check_c _ _).mono ?_; rintro e w1 ⟨rfl, hb⟩)
  go_ret2
  exact ⟨rfl, hb⟩
set_option maxRecDepth 100000 in
theorem NBit_neg (n : Nat) (i : Int) (w : World) (hf : fits n) (hi : i < 0) :
    Calls Tryz.prog 146 #[.string (natS n), .int .i64 i] w (BitPost 0 2 w) := by
  have hm := may1 hf
  go_enter Tryz.func146, Tryz.ntmps146
  go_wp2_with (go_at_call 54; refine (Check_c _ _).mono ?_; rintro e w1 ⟨rfl, hb⟩)
  go_ret2
  exact ⟨rfl, hb⟩
set_option maxRecDepth 100000 in
theorem NBit_c (n i : Nat) (w : World) (hf : fits n) (hi : i ≤ 9223372036854775807) :
    Calls Tryz.prog 146 #[.string (natS n), .int .i64 (i : Nat)] w (BitPost (dgt 2 n i) 0 w) := by
  have hm := may1 hf
  have hsz := natS_size n
  have hL : nd 256 n ≤ 16384 := hf
  have hi0 : ¬ (i : Int) < 0 := by omega
  by_cases hq : i / 8 < nd 256 n
  · obtain ⟨x, hx⟩ : ∃ x, nd 256 n = x + 1 + i / 8 := ⟨nd 256 n - 1 - i / 8, by omega⟩
    have hxs : x < (natS n).size := by omega
    have hg := natS_get n x hxs
    rw [show nd 256 n - 1 - x = i / 8 by omega] at hg
    have hbb := byte_bit n (i / 8) (i % 8) (by omega)
    rw [show 8 * (i / 8) + i % 8 = i by omega, ← hg] at hbb
    have hb8 := (natS n)[x].toNat_lt
    have HB := Lib.hid hbb
    obtain ⟨v, hv⟩ : ∃ v, v = (natS n)[x].toNat / 2 ^ (i % 8) := ⟨_, rfl⟩
    have hv2 : v < 256 := by rw [hv]; exact Nat.lt_of_le_of_lt (Nat.div_le_self _ _) hb8
    have hvI : ((natS n)[x].toNat : Int) / 2 ^ (i % 8) = (v : Int) := by rw [hv, int_pow2, Int.natCast_ediv]
    have hand := and_one_u8 v hv2
    rw [hv, hbb] at hand
    rw [← hv] at hand
    obtain ⟨q, hq1⟩ : ∃ q, i / 8 = q := ⟨_, rfl⟩
    obtain ⟨r, hr1⟩ : ∃ r, i % 8 = r := ⟨_, rfl⟩
    rw [hq1] at hx hq
    rw [hr1] at hvI
    have hqI : (i : Int) / 8 = (q : Int) := by omega
    have hrI : (i : Int) % 8 = (r : Int) := by omega
    have hr8 : r < 8 := by omega
    have hxI : (nd 256 n : Int) - 1 - (q : Int) = (x : Int) := by omega
    have hqL : ¬ (nd 256 n : Int) ≤ (q : Int) := by omega
    clear hv hbb hg hq1 hr1 hx hf
    go_enter Tryz.func146, Tryz.ntmps146
    go_wp2_with (go_at_call 54; refine (Check_c _ _).mono ?_; rintro e w1 ⟨rfl, hb⟩)
    go_ret2
    exact ⟨rfl, hb⟩
  · have HZ := Lib.hid (bit_above hq)
    have hqI : (nd 256 n : Int) ≤ (i : Int) / 8 := by omega
    go_enter Tryz.func146, Tryz.ntmps146
    go_wp2_with (go_at_call 54; refine (Check_c _ _).mono ?_; rintro e w1 ⟨rfl, hb⟩)
    go_ret2
    exact ⟨by rw [HZ.out]; rfl, hb⟩
end Go.Proofs.YtjalpocjgpgcfaaGreatDoor
set_option linter.unusedSimpArgs false
set_option linter.unusedVariables false
namespace Go.Proofs.YtjalpocjgpgcfaaGreatDoor
open Go Go.RowKit Nt

/-- What may be a Dyad. -/
def DOk (g : Bool) (s : ByteArray) (x : Int) : Prop := (s = ⟨#[]⟩ ∧ g = false ∧ x = 0) ∨ ∃ n, fits n ∧ n % 2 = 1 ∧ s = natS n ∧ -1048576 ≤ x ∧ x ≤ 1048576
theorem dFull {s : ByteArray} (h : 0 < s.size) : ¬ s.toList = [] := fun c => by
  rw [ba_toList] at c
  have : s.data.toList.length = 0 := by rw [c]; rfl
  rw [Array.length_toList] at this
  have h2 : s.size = s.data.size := rfl
  omega
theorem dFull2 {s : ByteArray} (h : 0 < s.size) : s.toList.isEmpty = false := by
  have := dFull h
  cases h2 : s.toList with
  | nil => exact absurd h2 this
  | cons x l => rfl
theorem ba_nil {s : ByteArray} (h : s.size = 0) : s = ⟨#[]⟩ := by
  obtain ⟨d⟩ := s
  have : d = #[] := Array.eq_empty_of_size_eq_zero h
  rw [this]
theorem last_odd (n : Nat) (h : 0 < (natS n).size) : ((natS n)[(natS n).size - 1]'(by omega)).toNat % 2 = n % 2 := by
  have e := natS_get n ((natS n).size - 1) (by omega)
  rw [e, natS_size, show nd 256 n - 1 - (nd 256 n - 1) = 0 by omega, dgt_def, Nat.pow_zero, Nat.div_one]
  omega
theorem odd_ne {n : Nat} (h : n % 2 = 1) : n ≠ 0 := fun c => by rw [c] at h; omega
theorem odd_size {n : Nat} (h : n % 2 = 1) : 0 < (natS n).size := by
  rw [natS_size]
  rcases Nat.eq_zero_or_pos (nd 256 n) with c | c
  · exact absurd ((nd_eq_zero (by omega)).1 c) (odd_ne h)
  · exact c
/-- Each that may not be, by what Check finds. -/
theorem dbad {g : Bool} {s : ByteArray} {x : Int} (h : ¬ DOk g s x) :
    (s = ⟨#[]⟩ ∧ (g = true ∨ x ≠ 0)) ∨ ∃ hs : 0 < s.size, (s[s.size - 1]'(by omega)).toNat % 2 = 0 ∨ ((s[s.size - 1]'(by omega)).toNat % 2 = 1 ∧ (¬ May s ∨ (May s ∧ (x < -1048576 ∨ 1048576 < x)))) := by
  by_cases h0 : s.size = 0
  · refine Or.inl ⟨ba_nil h0, ?_⟩
    cases g with
    | true => exact Or.inl rfl
    | false => exact Or.inr fun c => h (Or.inl ⟨ba_nil h0, rfl, c⟩)
  · refine Or.inr ⟨by omega, ?_⟩
    by_cases h1 : (s[s.size - 1]'(by omega)).toNat % 2 = 0
    · exact Or.inl h1
    · refine Or.inr ⟨by omega, ?_⟩
      by_cases hm : May s
      · refine Or.inr ⟨hm, ?_⟩
        by_cases h2 : x < -1048576
        · exact Or.inl h2
        · by_cases h3 : 1048576 < x
          · exact Or.inr h3
          · obtain ⟨n, hf, rfl⟩ := may_num hm
            have := last_odd n (by omega)
            exact absurd (Or.inr ⟨n, hf, by omega, rfl, by omega, by omega⟩) h
      · exact Or.inl hm
theorem u8_and0 {q : Nat} (hq : q < 256) (h : q % 2 = 0) : bits BinOp.and IntKind.u8 (q : Int) 1 = 0 := by rw [and_one_u8 q hq, h]; rfl
theorem u8_and1 {q : Nat} (hq : q < 256) (h : q % 2 = 1) : bits BinOp.and IntKind.u8 (q : Int) 1 = 1 := by rw [and_one_u8 q hq, h]; rfl
theorem bcell {W w1 : World} (hb : Below W.heap.size W w1) : (∀ b o, b < W.heap.size → w1.cell? ⟨b, o, none⟩ = W.cell? ⟨b, o, none⟩) ∧ (∀ b o, b < W.heap.size → w1.frozen? ⟨b, o, none⟩ = W.frozen? ⟨b, o, none⟩) :=
  ⟨fun b o h => hb.cell (p := ⟨b, o, none⟩) h, fun b o h => hb.frozen (p := ⟨b, o, none⟩) h⟩
theorem box_below {w w1 : World} {b : Obj} (hb : Below (w.alloc b).heap.size (w.alloc b) w1) : Below w.heap.size w w1 := ((Below.refl _ _).alloc (Nat.le_refl _) _).trans (hb.mono (by simp))
set_option maxRecDepth 100000 in
theorem DCheck_zero (w : World) : Calls Tryz.prog 30 #[.agg #[.bool false, .string ⟨#[]⟩, .int .i64 0]] w fun e w' => e = .returned (.int .i64 0) ∧ Below w.heap.size w w' := by
  go_enter Tryz.func30, Tryz.ntmps30
  go_wp2
  go_ret
  exact ⟨rfl, (Below.refl _ _).alloc (Nat.le_refl _) _⟩
theorem last_and (n : Nat) (ho : n % 2 = 1) (h : nd 256 n - 1 < (natS n).size) : bits BinOp.and IntKind.u8 (((natS n)[nd 256 n - 1]'h).toNat : Int) 1 = 1 := by
  refine u8_and1 ((natS n)[nd 256 n - 1]'h).toNat_lt ?_
  have hp := odd_size ho
  have := last_odd n hp
  simp only [natS_size] at this
  rw [this, ho]
set_option maxRecDepth 100000 in
theorem DCheck_num (g : Bool) (n : Nat) (x : Int) (w : World) (hf : fits n) (ho : n % 2 = 1) (h1 : -1048576 ≤ x) (h2 : x ≤ 1048576) :
    Calls Tryz.prog 30 #[.agg #[.bool g, .string (natS n), .int .i64 x]] w fun e w' => e = .returned (.int .i64 0) ∧ Below w.heap.size w w' := by
  have hm := may1 hf
  have hE := natS_full (odd_ne ho)
  have hE2 := natS_full2 (odd_ne ho)
  have hsz := natS_size n
  have hL : nd 256 n ≤ 16384 := hf
  have hp := odd_size ho
  have hl := last_and n ho (by omega)
  have HO := Lib.hid ho
  clear ho
  go_enter Tryz.func30, Tryz.ntmps30
  go_wp2_with (go_at_call 54; refine (Check_c _ _).mono ?_; rintro e w1 ⟨rfl, hb⟩; obtain ⟨hc, hfz⟩ := bcell hb)
  go_ret
  exact ⟨rfl, box_below hb⟩
set_option maxRecDepth 100000 in
theorem DCheck_bad (g : Bool) (s : ByteArray) (x : Int) (w : World) (hs : s.size ≤ 9223372036854775807) (h : ¬ DOk g s x) :
    Calls Tryz.prog 30 #[.agg #[.bool g, .string s, .int .i64 x]] w fun e w' => e = .returned (.int .i64 2) ∧ Below w.heap.size w w' := by
  rcases dbad h with ⟨rfl, hz⟩ | ⟨hp, hz⟩
  · clear h hs
    have hz2 : g = true ∨ (g = false ∧ (x == 0) = false ∧ ¬ x = 0) := by
      rcases hz with rfl | hz
      · exact Or.inl rfl
      · cases g
        · exact Or.inr ⟨rfl, by simpa using hz, hz⟩
        · exact Or.inl rfl
    clear hz
    rcases hz2 with rfl | ⟨rfl, hx, hx2⟩
    all_goals
      go_enter Tryz.func30, Tryz.ntmps30
      go_wp2
      go_ret
      exact ⟨rfl, (Below.refl _ _).alloc (Nat.le_refl _) _⟩
  · have hE := dFull hp
    have hE2 := dFull2 hp
    clear h
    rcases hz with hz | ⟨hz, hm | ⟨hm, hx⟩⟩
    · have hl : bits BinOp.and IntKind.u8 ((s[s.size - 1]'(by omega)).toNat : Int) 1 = 0 := u8_and0 (s[s.size - 1]'(by omega)).toNat_lt hz
      clear hz
      go_enter Tryz.func30, Tryz.ntmps30
      go_wp2
      go_ret
      exact ⟨rfl, (Below.refl _ _).alloc (Nat.le_refl _) _⟩
    · have hl : bits BinOp.and IntKind.u8 ((s[s.size - 1]'(by omega)).toNat : Int) 1 = 1 := u8_and1 (s[s.size - 1]'(by omega)).toNat_lt hz
      have hm' := may1_no hm
      clear hz hm
      go_enter Tryz.func30, Tryz.ntmps30
      go_wp2_with (go_at_call 54; refine (Check_c _ _).mono ?_; rintro e w1 ⟨rfl, hb⟩; obtain ⟨hc, hfz⟩ := bcell hb)
      go_ret
      exact ⟨rfl, box_below hb⟩
    · have hl : bits BinOp.and IntKind.u8 ((s[s.size - 1]'(by omega)).toNat : Int) 1 = 1 := u8_and1 (s[s.size - 1]'(by omega)).toNat_lt hz
      have hm' : mayE [s] = 0 := mayE_ok fun t ht => by rw [List.mem_singleton.1 ht]; exact hm
      clear hz hm
      rcases hx with hx | hx
      all_goals
        go_enter Tryz.func30, Tryz.ntmps30
        go_wp2_with (go_at_call 54; refine (Check_c _ _).mono ?_; rintro e w1 ⟨rfl, hb⟩; obtain ⟨hc, hfz⟩ := bcell hb)
        go_ret
        exact ⟨rfl, box_below hb⟩
end Go.Proofs.YtjalpocjgpgcfaaGreatDoor
set_option linter.unusedSimpArgs false
set_option linter.unusedVariables false
namespace Go.Proofs.YtjalpocjgpgcfaaGreatDoor
open Go Go.RowKit Nt

@[irreducible] def sgnI (g : Bool) : Int := if g then -1 else 1
theorem sgn_t : sgnI true = -1 := by unfold sgnI; rfl
theorem sgn_f : sgnI false = 1 := by unfold sgnI; rfl
theorem size_big {B n : Nat} {w w1 : World} (hb : Below n w w1) (h : B < w.heap.size) : B < w1.heap.size := Nat.lt_of_lt_of_le h hb.size
set_option maxRecDepth 100000 in
theorem DSign_zero (w : World) : Calls Tryz.prog 81 #[.agg #[.bool false, .string ⟨#[]⟩, .int .i64 0]] w fun e w' => e = .returned (.int .i64 0) ∧ Below w.heap.size w w' := by
  go_enter Tryz.func81, Tryz.ntmps81
  go_wp2_with (go_at_call 30; refine (DCheck_zero _).mono ?_; rintro e w1 ⟨rfl, hb⟩; obtain ⟨hc, hfz⟩ := bcell hb)
  go_ret
  exact ⟨rfl, box_below hb⟩
set_option maxRecDepth 100000 in
theorem DSign_bad (g : Bool) (s : ByteArray) (x : Int) (w : World) (hs : s.size ≤ 9223372036854775807) (h : ¬ DOk g s x) : Calls Tryz.prog 81 #[.agg #[.bool g, .string s, .int .i64 x]] w fun e w' => e = .returned (.int .i64 0) ∧ Below w.heap.size w w' := by
  have H := Lib.hid h
  clear h
  go_enter Tryz.func81, Tryz.ntmps81
  go_wp2_with (go_at_call 30; refine (DCheck_bad _ _ _ _ hs H.out).mono ?_; rintro e w1 ⟨rfl, hb⟩; obtain ⟨hc, hfz⟩ := bcell hb)
  go_ret
  exact ⟨rfl, box_below hb⟩
set_option maxRecDepth 100000 in
theorem DSign_num (g : Bool) (n : Nat) (x : Int) (w : World) (hf : fits n) (ho : n % 2 = 1) (h1 : -1048576 ≤ x) (h2 : x ≤ 1048576) :
    Calls Tryz.prog 81 #[.agg #[.bool g, .string (natS n), .int .i64 x]] w fun e w' => e = .returned (.int .i64 (sgnI g)) ∧ Below w.heap.size w w' := by
  have hE := natS_full (odd_ne ho)
  have hE2 := natS_full2 (odd_ne ho)
  have HO := Lib.hid ho
  clear ho
  cases g
  all_goals
    go_enter Tryz.func81, Tryz.ntmps81
    go_wp2_with (go_at_call 30; refine (DCheck_num _ _ _ _ hf HO.out h1 h2).mono ?_; rintro e w1 ⟨rfl, hb⟩; obtain ⟨hc, hfz⟩ := bcell hb)
    go_ret
  · exact ⟨by rw [sgn_f]; rfl, box_below hb⟩
  · exact ⟨by rw [sgn_t]; rfl, box_below hb⟩
set_option maxRecDepth 100000 in
theorem DTop_zero (w : World) : Calls Tryz.prog 111 #[.agg #[.bool false, .string ⟨#[]⟩, .int .i64 0]] w fun e w' => e = .returned (.tuple #[.int .i64 0, .bool false]) ∧ Below w.heap.size w w' := by
  go_enter Tryz.func111, Tryz.ntmps111
  go_wp2_with (go_at_call 81; refine (DSign_zero _).mono ?_; rintro e w1 ⟨rfl, hb⟩; obtain ⟨hc, hfz⟩ := bcell hb)
  go_ret2
  exact ⟨rfl, box_below hb⟩
set_option maxRecDepth 100000 in
theorem DTop_bad (g : Bool) (s : ByteArray) (x : Int) (w : World) (hs : s.size ≤ 9223372036854775807) (h : ¬ DOk g s x) : Calls Tryz.prog 111 #[.agg #[.bool g, .string s, .int .i64 x]] w fun e w' => e = .returned (.tuple #[.int .i64 0, .bool false]) ∧ Below w.heap.size w w' := by
  have H := Lib.hid h
  clear h
  go_enter Tryz.func111, Tryz.ntmps111
  go_wp2_with (go_at_call 81; refine (DSign_bad _ _ _ _ hs H.out).mono ?_; rintro e w1 ⟨rfl, hb⟩; obtain ⟨hc, hfz⟩ := bcell hb)
  go_ret2
  exact ⟨rfl, box_below hb⟩
theorem bits_131072' {n : Nat} (h : fits n) : nd 2 n ≤ 131072 := by
  have := (bits_le n 16384).2 h; omega
theorem sgn_ne (g : Bool) : (sgnI g == 0) = false := by cases g <;> simp [sgn_t, sgn_f]
theorem sgn_ne2 (g : Bool) : ¬ sgnI g = 0 := by cases g <;> simp [sgn_t, sgn_f]
set_option maxRecDepth 100000 in
theorem DTop_num (g : Bool) (n : Nat) (x : Int) (w : World) (hf : fits n) (ho : n % 2 = 1) (h1 : -1048576 ≤ x) (h2 : x ≤ 1048576) :
    Calls Tryz.prog 111 #[.agg #[.bool g, .string (natS n), .int .i64 x]] w fun e w' => e = .returned (.tuple #[.int .i64 ((nd 2 n : Nat) - 1 + x), .bool true]) ∧ Below w.heap.size w w' := by
  have HO := Lib.hid ho
  have hb2 := bits_131072' hf
  have hg := sgn_ne g
  have hg2 := sgn_ne2 g
  clear ho
  go_enter Tryz.func111, Tryz.ntmps111
  go_wp2_with (first
    | (go_at_call 81; refine (DSign_num _ _ _ _ hf HO.out h1 h2).mono ?_; rintro e w1 ⟨rfl, hb⟩; obtain ⟨hc, hfz⟩ := bcell hb; have hz : w.heap.size < w1.heap.size := by have := hb.size; simp at this; omega)
    | (go_at_call 114; refine (NLen_c _ _ hf).mono ?_; rintro e w2 ⟨rfl, hb'⟩; obtain ⟨hc', hfz'⟩ := bcell hb'))
  go_ret2
  exact ⟨rfl, (box_below hb).trans (hb'.mono (by omega))⟩
theorem box2 {w w1 : World} {b c : Obj} (hb : Below ((w.alloc b).alloc c).heap.size ((w.alloc b).alloc c) w1) : Below w.heap.size w w1 := (((Below.refl _ _).alloc (Nat.le_refl _) _).alloc (by simp) _).trans (hb.mono (by simp; omega))
theorem sz2 {w w1 : World} {b c : Obj} (hb : Below ((w.alloc b).alloc c).heap.size ((w.alloc b).alloc c) w1) : w.heap.size + 1 < w1.heap.size := by have := hb.size; simp at this; omega
set_option maxRecDepth 100000 in
theorem DNeg_zero (w : World) : Calls Tryz.prog 58 #[.agg #[.bool false, .string ⟨#[]⟩, .int .i64 0]] w fun e w' => e = .returned (.agg #[.bool false, .string ⟨#[]⟩, .int .i64 0]) ∧ Below w.heap.size w w' := by
  go_enter Tryz.func58, Tryz.ntmps58
  go_wp2_with (go_at_call 81; refine (DSign_zero _).mono ?_; rintro e w1 ⟨rfl, hb⟩; obtain ⟨hc, hfz⟩ := bcell hb; have hz := sz2 hb)
  refine bodyPost_ret (v := .agg #[.bool false, .string ⟨#[]⟩, .int .i64 0]) (by simp [results, Tryz.results58, go_sem, hc, hz]) rfl ⟨rfl, ?_⟩
  repeat (refine Below.setCell ?_ (by simp) _)
  exact box2 hb
set_option maxRecDepth 100000 in
theorem DNeg_bad (g : Bool) (s : ByteArray) (x : Int) (w : World) (hs : s.size ≤ 9223372036854775807) (h : ¬ DOk g s x) : Calls Tryz.prog 58 #[.agg #[.bool g, .string s, .int .i64 x]] w fun e w' => e = .returned (.agg #[.bool false, .string ⟨#[]⟩, .int .i64 0]) ∧ Below w.heap.size w w' := by
  have H := Lib.hid h
  clear h
  go_enter Tryz.func58, Tryz.ntmps58
  go_wp2_with (go_at_call 81; refine (DSign_bad _ _ _ _ hs H.out).mono ?_; rintro e w1 ⟨rfl, hb⟩; obtain ⟨hc, hfz⟩ := bcell hb; have hz := sz2 hb)
  refine bodyPost_ret (v := .agg #[.bool false, .string ⟨#[]⟩, .int .i64 0]) (by simp [results, Tryz.results58, go_sem, hc, hz]) rfl ⟨rfl, ?_⟩
  repeat (refine Below.setCell ?_ (by simp) _)
  exact box2 hb
set_option maxRecDepth 100000 in
theorem DNeg_num (g : Bool) (n : Nat) (x : Int) (w : World) (hf : fits n) (ho : n % 2 = 1) (h1 : -1048576 ≤ x) (h2 : x ≤ 1048576) :
    Calls Tryz.prog 58 #[.agg #[.bool g, .string (natS n), .int .i64 x]] w fun e w' => e = .returned (.agg #[.bool (!g), .string (natS n), .int .i64 x]) ∧ Below w.heap.size w w' := by
  have HO := Lib.hid ho
  have hg := sgn_ne g
  have hg2 := sgn_ne2 g
  clear ho
  go_enter Tryz.func58, Tryz.ntmps58
  go_wp2_with (go_at_call 81; refine (DSign_num _ _ _ _ hf HO.out h1 h2).mono ?_; rintro e w1 ⟨rfl, hb⟩; obtain ⟨hc, hfz⟩ := bcell hb; have hz := sz2 hb; have hc0 : w1.cell? ⟨w.heap.size, 0, none⟩ = some (.bool g) := (hc _ _ (by simp; omega)).trans (by simp [go_sem]); have hs0 : (w1.cell? ⟨w.heap.size, 0, none⟩).isSome = true := (by rw [hc0]; rfl))
  refine bodyPost_ret (v := .agg #[.bool (!g), .string (natS n), .int .i64 x]) (by simp [results, Tryz.results58, go_sem, hc, hz]) rfl ⟨rfl, ?_⟩
  repeat (refine Below.setCell ?_ (by simp) _)
  exact box2 hb
end Go.Proofs.YtjalpocjgpgcfaaGreatDoor
set_option linter.unusedSimpArgs false
set_option linter.unusedVariables false
namespace Go.Proofs.YtjalpocjgpgcfaaGreatDoor
open Go Go.RowKit Nt

set_option maxRecDepth 100000 in
theorem rMay3_zero (w : World) : Calls Tryz.prog 28 #[.agg #[.bool false, .string ⟨#[]⟩, .int .i64 0]] w fun e w' => e = .returned (.bool true) ∧ Below w.heap.size w w' := by
  go_enter Tryz.func28, Tryz.ntmps28
  go_wp2
  go_ret
  exact ⟨rfl, (Below.refl _ _).alloc (Nat.le_refl _) _⟩
theorem nat_first {n : Nat} (hf : fits n) (h : 0 < (natS n).size) : (natS n)[0].toNat ≠ 0 := ((may_natS n).2 hf).2 h
set_option maxRecDepth 100000 in
theorem rMay3_num (g : Bool) (n : Nat) (x : Int) (w : World) (hf : fits n) (ho : n % 2 = 1) (h1 : -1048576 ≤ x) (h2 : x ≤ 1048576) :
    Calls Tryz.prog 28 #[.agg #[.bool g, .string (natS n), .int .i64 x]] w fun e w' => e = .returned (.bool true) ∧ Below w.heap.size w w' := by
  have hE := natS_full (odd_ne ho)
  have hE2 := natS_full2 (odd_ne ho)
  have hsz := natS_size n
  have hL : nd 256 n ≤ 16384 := hf
  have hp := odd_size ho
  have hl : ((natS n)[nd 256 n - 1]'(by omega)).toNat % 2 = 1 := by
    have := last_odd n hp
    simp only [natS_size] at this
    rw [this, ho]
  have hl2 : (((natS n)[nd 256 n - 1]'(by omega)).toNat : Int) % 2 = 1 := by omega
  have hf0 := nat_first hf hp
  have hf1 : ¬ (((natS n)[0]'hp).toNat : Int) = 0 := by omega
  have hf2 : ((((natS n)[0]'hp).toNat : Int) != 0) = true := by rw [bne_iff_ne]; omega
  have HO := Lib.hid ho
  clear ho
  go_enter Tryz.func28, Tryz.ntmps28
  go_wp2
  go_ret
  exact ⟨rfl, (Below.refl _ _).alloc (Nat.le_refl _) _⟩
set_option maxRecDepth 100000 in
theorem rSign3_zero (w : World) : Calls Tryz.prog 66 #[.agg #[.bool false, .string ⟨#[]⟩, .int .i64 0]] w fun e w' => e = .returned (.int .i64 0) ∧ Below w.heap.size w w' := by
  go_enter Tryz.func66, Tryz.ntmps66
  go_wp2
  go_ret
  exact ⟨rfl, (Below.refl _ _).alloc (Nat.le_refl _) _⟩
set_option maxRecDepth 100000 in
theorem rSign3_num (g : Bool) (n : Nat) (x : Int) (w : World) (ho : n ≠ 0) :
    Calls Tryz.prog 66 #[.agg #[.bool g, .string (natS n), .int .i64 x]] w fun e w' => e = .returned (.int .i64 (sgnI g)) ∧ Below w.heap.size w w' := by
  have hE := natS_full ho
  have hE2 := natS_full2 ho
  have HO := Lib.hid ho
  clear ho
  cases g
  all_goals
    go_enter Tryz.func66, Tryz.ntmps66
    go_wp2
    go_ret
  · exact ⟨by rw [sgn_f]; rfl, (Below.refl _ _).alloc (Nat.le_refl _) _⟩
  · exact ⟨by rw [sgn_t]; rfl, (Below.refl _ _).alloc (Nat.le_refl _) _⟩
set_option maxRecDepth 100000 in
theorem rMay3_bad (g : Bool) (s : ByteArray) (x : Int) (w : World) (hs : s.size ≤ 9223372036854775807) (h : ¬ DOk g s x) :
    Calls Tryz.prog 28 #[.agg #[.bool g, .string s, .int .i64 x]] w fun e w' => e = .returned (.bool false) ∧ Below w.heap.size w w' := by
  rcases dbad h with ⟨rfl, hz⟩ | ⟨hp, hz⟩
  · clear h hs
    have hz2 : g = true ∨ (g = false ∧ (x == 0) = false ∧ ¬ x = 0) := by
      rcases hz with rfl | hz
      · exact Or.inl rfl
      · cases g
        · exact Or.inr ⟨rfl, by simpa using hz, hz⟩
        · exact Or.inl rfl
    clear hz
    rcases hz2 with rfl | ⟨rfl, hx, hx2⟩
    all_goals
      go_enter Tryz.func28, Tryz.ntmps28
      go_wp2
      go_ret
      exact ⟨rfl, (Below.refl _ _).alloc (Nat.le_refl _) _⟩
  · have hE := dFull hp
    have hE2 := dFull2 hp
    clear h
    by_cases hbig : 16384 < s.size
    · have hb' : ¬ (s.size : Int) ≤ 16384 := by omega
      clear hz
      go_enter Tryz.func28, Tryz.ntmps28
      go_wp2
      go_ret
      exact ⟨rfl, (Below.refl _ _).alloc (Nat.le_refl _) _⟩
    · have hb' : (s.size : Int) ≤ 16384 := by omega
      have hb'' : s.size ≤ 16384 := by omega
      by_cases h0 : (s[0]'hp).toNat = 0
      · have h0' : (((s[0]'hp).toNat : Int) != 0) = false := by rw [h0]; rfl
        have H0 := Lib.hid h0
        clear hz h0 hbig
        go_enter Tryz.func28, Tryz.ntmps28
        go_wp2
        go_ret
        exact ⟨rfl, (Below.refl _ _).alloc (Nat.le_refl _) _⟩
      · have h0' : (((s[0]'hp).toNat : Int) != 0) = true := by rw [bne_iff_ne]; omega
        have hm : May s := ⟨hb'', fun _ => h0⟩
        rcases hz with hz | ⟨hz, hm' | ⟨_, hx⟩⟩
        · have hl2 : ((s[s.size - 1]'(by omega)).toNat : Int) % 2 = 0 := by omega
          have H0 := Lib.hid h0
          clear hm h0 hz
          go_enter Tryz.func28, Tryz.ntmps28
          go_wp2
          go_ret
          exact ⟨rfl, (Below.refl _ _).alloc (Nat.le_refl _) _⟩
        · exact absurd hm hm'
        · have hl2 : ((s[s.size - 1]'(by omega)).toNat : Int) % 2 = 1 := by omega
          have H0 := Lib.hid h0
          clear hm h0 hz
          rcases hx with hx | hx
          · have hx' : ¬ -1048576 ≤ x := by omega
            go_enter Tryz.func28, Tryz.ntmps28
            go_wp2
            go_ret
            exact ⟨rfl, (Below.refl _ _).alloc (Nat.le_refl _) _⟩
          · have hx' : ¬ x ≤ 1048576 := by omega
            have hx'' : -1048576 ≤ x := by omega
            go_enter Tryz.func28, Tryz.ntmps28
            go_wp2
            go_ret
            exact ⟨congrArg (fun b => Ending.returned (.bool b)) (decide_eq_false (by omega)), (Below.refl _ _).alloc (Nat.le_refl _) _⟩
end Go.Proofs.YtjalpocjgpgcfaaGreatDoor
set_option linter.unusedSimpArgs false
set_option linter.unusedVariables false
namespace Go.Proofs.YtjalpocjgpgcfaaGreatDoor
open Go Go.RowKit Nt

theorem dlget3 (b n L i : Nat) (h : i < (dl b n L).length) : (dl b n L)[i] = dgt b n i := by
  have := dl_get? b n L i (by rw [dl_length] at h; exact h)
  rw [List.getElem?_eq_getElem h] at this
  exact Option.some.inj this
/-- A row of digits that the call made. -/
def BigPost (l : List Nat) (w : World) (e : Ending) (w' : World) : Prop := ∃ v, e = .returned v ∧ Own w' w.heap.size 3 .i64 v l ∧ Below w.heap.size w w'
set_option maxRecDepth 100000 in
set_option maxHeartbeats 1000000 in
theorem rOf3_c (n : Nat) (w : World) (hn : nd 256 n ≤ 1000000000) :
    Calls Tryz.prog 68 #[.string (natS n)] w (BigPost (dl 256 n (nd 256 n)) w) := by
  obtain ⟨i0, hi0, hz0, hj1, hj2⟩ := info_parts (P := Tryz.prog) (e := 3) (z := .int .i64 0) (size := 1) (bytes := 8) (by kernel_rfl)
  have hsz := natS_size n
  obtain ⟨N, hN⟩ : ∃ N, N = nd 256 n := ⟨_, rfl⟩
  have hg := fun k (h : k < (natS n).size) => natS_get n k h
  rw [← hN] at hsz hn hg ⊢
  have HG := Lib.hid hg
  have HN := Lib.hid hN
  clear hN hg
  go_enter Tryz.func68, Tryz.ntmps68
  go_wp2
  go_loopw [3, 4] (fun v i wr => ∃ (k : Nat) (z : Int), k ≤ N ∧ i = .int .i64 z ∧ Hid (z = (N : Int) - 1 - (k : Int)) ∧ Hid (Own wr w.heap.size 3 .i64 v (dl 256 n k)) ∧ Below w.heap.size w wr) (fun _ i _ => (intOf i + 1).toNat)
  case atStart => exact ⟨0, _, Nat.zero_le _, rfl, Lib.hid (by first | rfl | omega | go_num), Lib.hid (Own.nil _ _ _ _), Below.refl _ _⟩
  case round =>
    obtain ⟨k, z, hk, rfl, hz, hown, hb⟩ := hrel
    by_cases h0 : k = N
    · subst h0
      obtain rfl : z = -1 := by have := hz.out; omega
      go_wp2
      go_ret
      exact ⟨_, rfl, hown.out, hb⟩
    · obtain ⟨m, hm⟩ : ∃ m, N = k + 1 + m := ⟨N - k - 1, by omega⟩
      obtain rfl : z = (m : Int) := by have := hz.out; omega
      have hms : m < (natS n).size := by omega
      have e := HG.out m hms
      rw [show N - 1 - m = k by omega] at e
      have hlt := (natS n)[m].toNat_lt
      have hw : wrap64 ((m : Int) - 1) = (m : Int) - 1 := IntWalk.wrap64_in _ (by omega)
      have hlen : Hid ((dl 256 n k).length + 1 ≤ 17592186044416) := Lib.hid (by rw [dl_length]; omega)
      have hm0 : (0 : Int) ≤ (m : Int) := by omega
      have HM := Lib.hid hm
      have HE := Lib.hid e
      have hwc : wrap64 (((natS n)[m].toNat : Nat) : Int) = (((natS n)[m].toNat : Nat) : Int) := IntWalk.wrap64_in _ (by omega)
      clear e hm h0
      go_wp2_with (at_builtin; go_loud (refine wpList_app1 wr rfl (.tmp 12) (.tmp 17) _ rfl w.heap.size 3 3 i0 .i64 8 Tryz.underlying124 hi0 hz0 hj1 hj2 (by omega) _ (dl 256 n k) (natS n)[m].toNat rfl rfl hown.out hlen.out hb.size ?_); intro v5 w5 hown5 hb5 hfr5 hnw5)
      rw [HE.out, ← dl_succ] at hown5
      have HO5 := Lib.hid hown5
      clear hown5 hfr5 hnw5
      go_roundw
      case rel => exact ⟨k + 1, _, by have := HM.out; omega, rfl, Lib.hid (by have := HM.out; omega), HO5, hb.trans hb5⟩
      case measure => simp [intOf]; try omega
set_option maxRecDepth 100000 in
theorem rBits3_c (n B : Nat) (A : Option Addr) (c : Nat) (w : World) (hn : nd 256 n ≤ 1000000000) (h : Own w B 3 .i64 (.slice A (nd 256 n) c) (dl 256 n (nd 256 n))) :
    Calls Tryz.prog 107 #[.slice A (nd 256 n) c] w fun e w' => e = .returned (.int .i64 (nd 2 n : Nat)) ∧ w = w' := by
  by_cases h0 : n = 0
  · have HZ := Lib.hid (show nd 2 n = 0 by rw [h0, nd_zero])
    have e : nd 256 n = 0 := by rw [h0, nd_zero]
    rw [e] at h ⊢
    clear h h0 hn e
    go_enter Tryz.func107, Tryz.ntmps107
    go_wp2
    go_ret
    exact ⟨by rw [HZ.out]; rfl, rfl⟩
  · have hb8 := (bits_le n (nd 256 n)).2 (Nat.le_refl _)
    have ht := nd_top (b := 2) (c := 256) (e := 8) (by omega) (by omega) (by rfl) n h0
    obtain ⟨L, hL⟩ : ∃ L, nd 256 n = L + 1 := ⟨nd 256 n - 1, by
      rcases Nat.eq_zero_or_pos (nd 256 n) with h | h
      · exact absurd ((nd_eq_zero (by omega)).1 h) h0
      · omega⟩
    rw [hL, Nat.add_sub_cancel] at ht
    rw [hL] at h hn hb8 ⊢
    obtain ⟨g, cap, e, _, hg, hc, hf⟩ := h.cell (j := L) (by rw [dl_length]; omega)
    injection e with e1 e2 e3
    subst e1
    rw [dlget3] at hc
    have hlt := dgt_lt (b := 256) (by omega) n L
    generalize dgt 256 n L = d at *
    have HT := Lib.hid ht
    have HB := Lib.hid hb8
    clear h e2 e3 hf ht hb8 hL h0
    go_enter Tryz.func107, Tryz.ntmps107
    go_wp2
    go_loop [3, 4] (fun a b => ∃ x y : Nat, a = .int .i64 x ∧ b = .int .i64 y ∧ x ≤ 9000000000 ∧ y < 256 ∧ Hid (x + nd 2 y = nd 2 n)) (fun _ b => (intOf b).toNat)
    case atStart => exact ⟨8 * L, d, by go_num, rfl, by omega, hlt, Lib.hid (by rw [HT.out])⟩
    case round =>
      obtain ⟨x, y, rfl, rfl, hx, hy, hxy⟩ := hrel
      by_cases hy0 : y = 0
      · subst hy0
        have HZ := Lib.hid (show x = nd 2 n by have := hxy.out; rw [nd_zero] at this; exact this)
        go_wp2
        go_ret
        exact ⟨by rw [← HZ.out]; rfl, rfl⟩
      · have HS := Lib.hid (nd_step (b := 2) (by omega) hy0)
        have hy1 : (0 : Int) < (y : Int) := by omega
        have hxm : Hid (x + 1 ≤ 9000000000) := Lib.hid (by have h1 := hxy.out; have h2 := HS.out; have h3 := HB.out; omega)
        go_wp2
        go_round
        case rel => exact ⟨x + 1, y / 2, by go_num, by go_num, hxm.out, by omega, Lib.hid (by have h1 := hxy.out; have h2 := HS.out; omega)⟩
        case measure => simp [intOf]; omega
set_option maxRecDepth 100000 in
theorem rTop3_zero (w : World) : Calls Tryz.prog 67 #[.agg #[.bool false, .string ⟨#[]⟩, .int .i64 0]] w fun e w' => e = .returned (.tuple #[.int .i64 0, .bool false]) ∧ Below w.heap.size w w' := by
  go_enter Tryz.func67, Tryz.ntmps67
  go_wp2
  go_ret2
  exact ⟨rfl, (Below.refl _ _).alloc (Nat.le_refl _) _⟩
end Go.Proofs.YtjalpocjgpgcfaaGreatDoor
set_option linter.unusedSimpArgs false
set_option linter.unusedVariables false
namespace Go.Proofs.YtjalpocjgpgcfaaGreatDoor
open Go Go.RowKit Nt

theorem Own.take {w : World} {B : Nat} {T : TypeId} {k : IntKind} {A : Option Addr} {L c : Nat} {l : List Nat} (h : Own w B T k (.slice A L c) l) {m : Nat} (hm : m ≤ l.length) : Own w B T k (.slice A m c) (l.take m) := by
  have hl : (l.take m).length = m := by rw [List.length_take]; omega
  unfold Own
  rw [hl]
  refine ⟨by simp; omega, ?_⟩
  rcases h.2 with ⟨e, h0⟩ | ⟨g, cap, cur, e, hB, hh, hn, hmx, hs, ht⟩
  · injection e with e1 e2 e3
    refine Or.inl ⟨?_, by omega⟩
    rw [e1, e3, show m = 0 by omega]
  · injection e with e1 e2 e3
    refine Or.inr ⟨g, cap, cur, by rw [e1, e3], hB, hh, by omega, hmx, hs, ?_⟩
    rw [Nat.mul_one] at ht ⊢
    rw [List.map_take, ← ht, List.take_take, Nat.min_eq_left hm]
theorem dl_take (b n : Nat) {L m : Nat} (h : m ≤ L) : (dl b n L).take m = dl b n m := by
  apply List.ext_getElem
  · rw [List.length_take, dl_length, dl_length]; omega
  · intro i h1 h2
    rw [List.getElem_take, dlget3, dlget3]
/-- Without the noughts at the end. -/
theorem Own.cut {w : World} {B : Nat} {T : TypeId} {k : IntKind} {A : Option Addr} {L c n : Nat} (h : Own w B T k (.slice A L c) (dl 256 n L)) (hn : nd 256 n ≤ L) : Own w B T k (.slice A (nd 256 n) c) (dl 256 n (nd 256 n)) := by
  have := h.take (m := nd 256 n) (by rw [dl_length]; exact hn)
  rwa [dl_take 256 n hn] at this
set_option maxRecDepth 100000 in
set_option maxHeartbeats 400000 in
theorem rCut3_c (n L B : Nat) (A : Option Addr) (c : Nat) (w : World) (hn : nd 256 n ≤ L) (hL : L ≤ 1000000000) (h : Own w B 3 .i64 (.slice A L c) (dl 256 n L)) :
    Calls Tryz.prog 108 #[.slice A L c] w fun e w' => e = .returned (.slice A (nd 256 n) c) ∧ w = w' := by
  rcases h.form with ⟨e, h0⟩ | ⟨g, cap, cs, e, _, hg, hblk, hcap, hcm, hcell⟩
  · injection e with e1 e2 e3
    have hz : nd 256 n = 0 := by omega
    subst e1 e2 e3
    rw [hz]
    clear h h0 hn
    go_enter Tryz.func108, Tryz.ntmps108
    go_wp2
    go_loop [3] (fun i => i = .int .i64 0) (fun i => (intOf i).toNat)
    case atStart => rfl
    case round =>
      obtain rfl := hrel
      go_wp2
      go_ret
      exact ⟨rfl, rfl⟩
  · injection e with e1 e2 e3
    subst e1 e3
    rw [dl_length] at hcap
    have hc : Hid (∀ j, j < L → w.cell? ⟨g, j, none⟩ = some (.int .i64 (dgt 256 n j : Nat))) := Lib.hid fun j hj => by
      rw [hblk.cell, hcell j (by rw [dl_length]; exact hj), dlget3]
    clear h hcell hblk e2
    go_enter Tryz.func108, Tryz.ntmps108
    go_wp2
    go_loop [3] (fun i => ∃ k : Nat, i = .int .i64 k ∧ nd 256 n ≤ k ∧ k ≤ L) (fun i => (intOf i).toNat)
    case atStart => exact ⟨L, rfl, hn, Nat.le_refl _⟩
    case round =>
      obtain ⟨k, rfl, hk, hkL⟩ := hrel
      by_cases hk0 : k = 0
      · subst hk0
        have hz : nd 256 n = 0 := by omega
        have HZ := Lib.hid hz
        clear hk hz
        go_wp2
        go_ret
        exact ⟨by rw [HZ.out]; try rfl, rfl⟩
      · obtain ⟨m, rfl⟩ : ∃ m, k = m + 1 := ⟨k - 1, by omega⟩
        have hcm' := hc.out m (by omega)
        by_cases hd : dgt 256 n m = 0
        · rw [hd] at hcm'
          have hk2 : Hid (nd 256 n ≤ m) := Lib.hid (by
            rcases Nat.lt_or_ge m (nd 256 n) with c | c
            · have e : nd 256 n = m + 1 := by omega
              have := dgt_top (b := 256) (n := n) (by omega) (fun c => by rw [c, nd_zero] at e; omega)
              rw [e, Nat.add_sub_cancel] at this
              exact absurd hd this
            · exact c)
          clear hk hd
          go_wp2
          go_round
          case rel => exact ⟨m, by go_num, hk2.out, by omega⟩
          case measure => simp [intOf]; try omega
        · have hd1 : ((dgt 256 n m : Nat) : Int) ≠ 0 := by omega
          have hd2 : (((dgt 256 n m : Nat) : Int) == 0) = false := by rw [beq_eq_false_iff_ne]; exact hd1
          have HE := Lib.hid (show nd 256 n = m + 1 by
            rcases Nat.lt_or_ge m (nd 256 n) with c | c
            · omega
            · exact absurd (dgt_big (b := 256) (by omega) c) hd)
          generalize dgt 256 n m = d at *
          clear hk
          go_wp2
          go_ret
          exact ⟨by rw [HE.out]; try rfl, rfl⟩
set_option maxRecDepth 100000 in
theorem rAt3_c (n L i B : Nat) (A : Option Addr) (c : Nat) (w : World) (hL : nd 256 n ≤ L) (hL2 : L ≤ 4000000000) (hi : i ≤ 4000000000) (h : Own w B 3 .i64 (.slice A L c) (dl 256 n L)) :
    Calls Tryz.prog 128 #[.slice A L c, .int .i64 (i : Nat)] w fun e w' => e = .returned (.int .i64 (dgt 256 n i : Nat)) ∧ w = w' := by
  by_cases hlt : i < L
  · obtain ⟨g, cap, e, _, hg, hc, hf⟩ := h.cell (j := i) (by rw [dl_length]; exact hlt)
    injection e with e1 e2 e3
    subst e1
    rw [dlget3] at hc
    generalize dgt 256 n i = d at *
    clear h e2 e3 hf
    go_enter Tryz.func128, Tryz.ntmps128
    go_wp2
    go_ret
    exact ⟨rfl, rfl⟩
  · rw [dgt_big (b := 256) (by omega) (show nd 256 n ≤ i by omega)]
    clear h hL
    go_enter Tryz.func128, Tryz.ntmps128
    go_wp2
    go_ret
    exact ⟨rfl, rfl⟩
end Go.Proofs.YtjalpocjgpgcfaaGreatDoor
set_option linter.unusedSimpArgs false
set_option linter.unusedVariables false
namespace Go.Proofs.YtjalpocjgpgcfaaGreatDoor
open Go Go.RowKit Nt

theorem tz8_spec : ∀ n : Fin 256, n.val ≠ 0 → Lib.trailingZeros8 n.val < 8 ∧ n.val / 2 ^ Lib.trailingZeros8 n.val % 2 = 1 ∧ ∀ j : Fin 8, j.val < Lib.trailingZeros8 n.val → n.val / 2 ^ j.val % 2 = 0 := by decide +kernel
/-- The place of the lowest bit that is one. -/
def IsLow (n l : Nat) : Prop := (n = 0 → l = 0) ∧ (n ≠ 0 → dgt 2 n l = 1 ∧ ∀ j, j < l → dgt 2 n j = 0)
theorem low_lt {n l : Nat} (h0 : n ≠ 0) (h : IsLow n l) : l < nd 2 n := by
  rcases Nat.lt_or_ge l (nd 2 n) with h1 | h1
  · exact h1
  · have := dgt_big (b := 2) (by omega) h1; have := (h.2 h0).1; omega
theorem low_unique {n k l : Nat} (hk : IsLow n k) (hl : IsLow n l) : k = l := by
  by_cases h0 : n = 0
  · rw [hk.1 h0, hl.1 h0]
  · obtain ⟨k1, k2⟩ := hk.2 h0
    obtain ⟨l1, l2⟩ := hl.2 h0
    rcases Nat.lt_trichotomy k l with h | h | h
    · have := l2 k h; omega
    · exact h
    · have := k2 l h; omega
theorem first_one (n : Nat) : ∀ m, (∃ l, l < m ∧ dgt 2 n l = 1 ∧ ∀ j, j < l → dgt 2 n j = 0) ∨ ∀ j, j < m → dgt 2 n j = 0 := by
  intro m
  induction m with
  | zero => exact Or.inr fun j h => by omega
  | succ m ih =>
    rcases ih with ⟨l, h1, h2, h3⟩ | h
    · exact Or.inl ⟨l, by omega, h2, h3⟩
    · have hl := dgt_lt (b := 2) (by omega) n m
      by_cases hm : dgt 2 n m = 0
      · refine Or.inr fun j hj => ?_
        by_cases c : j = m
        · rw [c]; exact hm
        · exact h j (by omega)
      · exact Or.inl ⟨m, by omega, by omega, h⟩
theorem low_ex (n : Nat) : ∃ l, IsLow n l := by
  by_cases h0 : n = 0
  · exact ⟨0, fun _ => rfl, fun c => absurd h0 c⟩
  · rcases first_one n (nd 2 n) with ⟨l, _, h2, h3⟩ | h
    · exact ⟨l, fun c => absurd c h0, fun _ => ⟨h2, h3⟩⟩
    · have h1 := dgt_top (b := 2) (by omega) h0
      have h2 : 0 < nd 2 n := by
        rcases Nat.eq_zero_or_pos (nd 2 n) with c | c
        · exact absurd ((nd_eq_zero (by omega)).1 c) h0
        · exact c
      exact absurd (h (nd 2 n - 1) (by omega)) h1
theorem low_byte {n q : Nat} (hz : ∀ j, j < q → dgt 256 n j = 0) (hb : dgt 256 n q ≠ 0) : IsLow n (8 * q + Lib.trailingZeros8 (dgt 256 n q)) := by
  have hlt := dgt_lt (b := 256) (by omega) n q
  obtain ⟨t1, t2, t3⟩ := tz8_spec ⟨dgt 256 n q, hlt⟩ hb
  simp only at t1 t2 t3
  have h0 : n ≠ 0 := fun c => hb (by rw [c, dgt_def, Nat.zero_div])
  refine ⟨fun c => absurd c h0, fun _ => ⟨?_, fun j hj => ?_⟩⟩
  · rw [← byte_bit n q _ t1]; exact t2
  · by_cases h : j / 8 < q
    · have e := byte_bit n (j / 8) (j % 8) (by omega)
      rw [show 8 * (j / 8) + j % 8 = j by omega, hz _ h, Nat.zero_div] at e
      exact e.symm
    · have hq : j / 8 = q := by omega
      have e := byte_bit n q (j % 8) (by omega)
      rw [show 8 * q + j % 8 = j by omega] at e
      rw [← e]
      exact t3 ⟨j % 8, by omega⟩ (by show j % 8 < _; omega)
set_option maxRecDepth 100000 in
theorem NLow_no (s : ByteArray) (w : World) (h : ¬ May s) :
    Calls Tryz.prog 83 #[.string s] w (IntPost 0 2 w) := by
  have hm := may1_no h
  go_enter Tryz.func83, Tryz.ntmps83
  go_wp2_with (go_at_call 54; refine (Check_c _ _).mono ?_; rintro e w1 ⟨rfl, hb⟩)
  go_ret2
  exact ⟨rfl, hb⟩
set_option maxRecDepth 100000 in
theorem NLow_c (n l : Nat) (w : World) (hf : fits n) (hl : IsLow n l) :
    Calls Tryz.prog 83 #[.string (natS n)] w (IntPost (l : Nat) 0 w) := by
  have hm := may1 hf
  have hsz := natS_size n
  have hL : nd 256 n ≤ 16384 := hf
  obtain ⟨N, hN⟩ : ∃ N, N = nd 256 n := ⟨_, rfl⟩
  have hg := fun k (h : k < (natS n).size) => natS_get n k h
  rw [← hN] at hsz hL hg
  have HG := Lib.hid hg
  have HN := Lib.hid hN
  have HL := Lib.hid hl
  clear hN hg hl hf
  go_enter Tryz.func83, Tryz.ntmps83
  go_wp2_with (go_at_call 54; refine (Check_c _ _).mono ?_; rintro e w1 ⟨rfl, hb⟩)
  go_loopw [5] (fun i wr => ∃ (k : Nat) (z : Int), k ≤ N ∧ i = .int .i64 z ∧ Hid (z = (k : Int) - 1) ∧ Hid (∀ j, j < N - k → dgt 256 n j = 0) ∧ Below w.heap.size w wr) (fun i _ => (intOf i + 1).toNat)
  case atStart => exact ⟨N, _, Nat.le_refl _, rfl, Lib.hid (by first | rfl | omega | go_num), Lib.hid (fun j h => by omega), hb⟩
  case round =>
    obtain ⟨k, z, hk, rfl, hz, hj, hbw⟩ := hrel
    by_cases h0 : k = 0
    · subst h0
      obtain rfl : z = -1 := by have := hz.out; omega
      have HZ := Lib.hid (show l = 0 by
        refine HL.out.1 ((nd_eq_zero (b := 256) (by omega)).1 ?_)
        rcases Nat.eq_zero_or_pos (nd 256 n) with c | c
        · exact c
        · have h1 := dgt_top (b := 256) (n := n) (by omega) (fun d => by rw [d, nd_zero] at c; omega)
          exact absurd (hj.out (nd 256 n - 1) (by have := HN.out; omega)) h1)
      go_wp2
      go_ret2
      exact ⟨by rw [HZ.out]; rfl, hbw⟩
    · obtain ⟨m, rfl⟩ : ∃ m, k = m + 1 := ⟨k - 1, by omega⟩
      obtain rfl : z = (m : Int) := by have := hz.out; omega
      have hms : m < (natS n).size := by omega
      have e := HG.out m hms
      have hlt := (natS n)[m].toNat_lt
      have hw : wrap64 ((m : Int) - 1) = (m : Int) - 1 := IntWalk.wrap64_in _ (by omega)
      by_cases h1 : (natS n)[m].toNat = 0
      · have h1' := nne_false h1
        have HJ := Lib.hid (show ∀ j, j < N - m → dgt 256 n j = 0 from fun j hj2 => by
          by_cases c : j = N - 1 - m
          · rw [c, ← e]; exact h1
          · exact hj.out j (by omega))
        clear h1 e
        go_wp2
        go_roundw
        case rel => exact ⟨m, _, by omega, rfl, Lib.hid rfl, HJ, hbw⟩
        case measure => simp [intOf]; try omega
      · have h1' := nne_true h1
        have hlo := low_byte (n := n) (q := N - 1 - m) (fun j h => hj.out j (by omega)) (by rw [← e]; exact h1)
        rw [← e] at hlo
        obtain ⟨t, ht⟩ : ∃ t, t = Lib.trailingZeros8 (natS n)[m].toNat := ⟨_, rfl⟩
        have ht8 : t ≤ 8 := by rw [ht]; exact Lib.trailingZeros8_le8 ⟨(natS n)[m].toNat, hlt⟩
        have ht2 : ∀ w, Calls Tryz.prog 113 #[.int .u8 ((natS n)[m].toNat : Nat)] w fun e w' => e = .returned (.int .i64 (t : Nat)) ∧ w = w' := fun w => by
          refine (Tryz.bits_TrailingZeros8 _ _ (by omega) (by omega)).mono ?_
          rintro e w' ⟨rfl, rfl⟩
          exact ⟨by rw [Int.toNat_natCast, ← ht], rfl⟩
        rw [← ht] at hlo
        have hfin := low_unique HL.out hlo
        obtain ⟨q, hq⟩ : ∃ q, q = N - 1 - m := ⟨_, rfl⟩
        rw [← hq] at hfin
        have hqI : (N : Int) - 1 - (m : Int) = (q : Int) := by omega
        have HF := Lib.hid hfin
        have K := Lib.hid ht2
        have hqN : q ≤ 16384 := by omega
        clear h1 e hlo ht ht2 hfin hq
        go_wp2_with (go_at_call 113; refine (K.out _).mono ?_; rintro e w' ⟨rfl, rfl⟩)
        go_ret2
        exact ⟨by rw [HF.out]; congr 1, hbw⟩
end Go.Proofs.YtjalpocjgpgcfaaGreatDoor
set_option linter.unusedSimpArgs false
set_option linter.unusedVariables false
namespace Go.Proofs.YtjalpocjgpgcfaaGreatDoor
open Go Go.RowKit Nt

theorem and_one_i64d (q : Nat) (hq : q < 256) : bits BinOp.and IntKind.i64 (q : Int) 1 = ((q % 2 : Nat) : Int) := by
  have h1 : (BitVec.ofInt 64 (q : Int)).toNat = q := by
    rw [BitVec.ofInt_natCast, BitVec.toNat_ofNat]; exact Nat.mod_eq_of_lt (by omega)
  have h2 : (BitVec.ofInt 64 (1 : Int)).toNat = 1 := by decide
  show IntKind.i64.wrap ((BitVec.ofInt 64 (q : Int) &&& BitVec.ofInt 64 (1 : Int)).toNat : Int) = _
  rw [BitVec.toNat_and, h1, h2, Nat.and_one_is_mod]
  exact IntWalk.i64_in _ (by omega)
set_option maxRecDepth 100000 in
set_option maxHeartbeats 400000 in
theorem rLow3_c (n l L B : Nat) (A : Option Addr) (c : Nat) (w : World) (h0 : n ≠ 0) (hl : IsLow n l) (hn : nd 256 n ≤ L) (hL : L ≤ 1000000000) (h : Own w B 3 .i64 (.slice A L c) (dl 256 n L)) :
    Calls Tryz.prog 126 #[.slice A L c] w fun e w' => e = .returned (.int .i64 (l : Nat)) ∧ w = w' := by
  have hlt := low_lt h0 hl
  have hb8 := (bits_le n (nd 256 n)).2 (Nat.le_refl _)
  obtain ⟨g, cap, e, _, hg, hx1, hx2⟩ := h.cell (j := 0) (by rw [dl_length]; omega)
  clear hx1 hx2
  injection e with e1 e2 e3
  subst e1
  have hc : Hid (∀ j, j < L → w.cell? ⟨g, j, none⟩ = some (.int .i64 (dgt 256 n j : Nat))) := Lib.hid fun j hj => by
    obtain ⟨g', cap', e', _, _, hc', _⟩ := h.cell (j := j) (by rw [dl_length]; exact hj)
    injection e' with e1' e2' e3'
    injection e1' with e1'
    injection e1' with e1'
    subst e1'
    rw [hc', dlget3]
  have HL := Lib.hid (hl.2 h0)
  have HB : l < 8 * L := by omega
  clear h e2 e3 hl hlt hb8 hn h0
  go_enter Tryz.func126, Tryz.ntmps126
  go_wp2
  go_loop [3] (fun i => ∃ k : Nat, k ≤ l ∧ i = .int .i64 k) (fun i => l - (intOf i).toNat)
  case atStart => exact ⟨0, Nat.zero_le _, rfl⟩
  case round =>
    obtain ⟨k, hk, rfl⟩ := hrel
    have hbb := byte_bit n (k / 8) (k % 8) (by omega)
    rw [show 8 * (k / 8) + k % 8 = k by omega] at hbb
    have hqL : k / 8 < L := by omega
    have hcq := hc.out (k / 8) hqL
    have hd8 := dgt_lt (b := 256) (by omega) n (k / 8)
    generalize dgt 256 n (k / 8) = d at *
    obtain ⟨v, hv⟩ : ∃ v, v = d / 2 ^ (k % 8) := ⟨_, rfl⟩
    have hv2 : v < 256 := by rw [hv]; exact Nat.lt_of_le_of_lt (Nat.div_le_self _ _) hd8
    have hvI : (d : Int) / 2 ^ (k % 8) = (v : Int) := by rw [hv, int_pow2, Int.natCast_ediv]
    have hand := and_one_i64d v hv2
    rw [hv, hbb] at hand
    rw [← hv] at hand
    obtain ⟨q, hq1⟩ : ∃ q, k / 8 = q := ⟨_, rfl⟩
    obtain ⟨r, hr1⟩ : ∃ r, k % 8 = r := ⟨_, rfl⟩
    rw [hq1] at hqL hcq
    rw [hr1] at hvI
    have hqI : (k : Int) / 8 = (q : Int) := by omega
    have hrI : (k : Int) % 8 = (r : Int) := by omega
    have hr8 : r < 8 := by omega
    clear hv hbb hq1 hr1
    by_cases hkl : k < l
    · rw [HL.out.2 k hkl] at hand
      have hz : bits BinOp.and IntKind.i64 (v : Int) 1 = 0 := hand
      clear hand
      go_wp2
      go_round
      case rel => exact ⟨k + 1, by omega, by go_num⟩
      case measure => simp [intOf]; try omega
    · obtain rfl : k = l := by omega
      rw [HL.out.1] at hand
      have hz : bits BinOp.and IntKind.i64 (v : Int) 1 = 1 := hand
      clear hand
      go_wp2
      go_ret
      exact ⟨rfl, rfl⟩
end Go.Proofs.YtjalpocjgpgcfaaGreatDoor
set_option linter.unusedSimpArgs false
set_option linter.unusedVariables false
namespace Go.Proofs.YtjalpocjgpgcfaaGreatDoor
open Go Go.RowKit Nt

def lowN (n : Nat) : Nat := if h : n = 0 ∨ n % 2 = 1 then 0 else lowN (n / 2) + 1
termination_by n
decreasing_by omega
theorem lowN_odd {n : Nat} (h : n % 2 = 1) : lowN n = 0 := by unfold lowN; rw [dif_pos (Or.inr h)]
theorem lowN_zero : lowN 0 = 0 := by unfold lowN; rw [dif_pos (Or.inl rfl)]
theorem lowN_even {n : Nat} (h0 : n ≠ 0) (h : n % 2 = 0) : lowN n = lowN (n / 2) + 1 := by
  have e : ¬ (n = 0 ∨ n % 2 = 1) := fun c => by rcases c with c | c; exact h0 c; omega
  rw [lowN.eq_1 n, dif_neg e]
theorem lowN_ex (n : Nat) (h0 : n ≠ 0) : ∃ o, o % 2 = 1 ∧ n = o * 2 ^ lowN n := by
  induction n using Nat.strongRecOn with
  | ind n ih =>
    by_cases h : n % 2 = 1
    · exact ⟨n, h, by rw [lowN_odd h, Nat.pow_zero, Nat.mul_one]⟩
    · obtain ⟨o, ho, e⟩ := ih (n / 2) (by omega) (by omega)
      refine ⟨o, ho, ?_⟩
      rw [lowN_even h0 (by omega), Nat.pow_succ, ← Nat.mul_assoc, ← e]; omega
def odN (n : Nat) : Nat := n / 2 ^ lowN n
theorem odN_spec {n : Nat} (h0 : n ≠ 0) : odN n % 2 = 1 ∧ n = odN n * 2 ^ lowN n := by
  obtain ⟨o, ho, e⟩ := lowN_ex n h0
  have e2 : odN n = o := by
    unfold odN
    generalize lowN n = k at *
    rw [e, Nat.mul_div_cancel _ (Nat.two_pow_pos _)]
  rw [e2]; exact ⟨ho, e⟩
theorem odN_pos {n : Nat} (h0 : n ≠ 0) : odN n ≠ 0 := odd_ne (odN_spec h0).1
theorem odd_pow {o l m k : Nat} (ho : o % 2 = 1) (hm : m % 2 = 1) (h : o * 2 ^ l = m * 2 ^ k) : l = k ∧ o = m := by
  induction l generalizing k with
  | zero =>
    cases k with
    | zero => exact ⟨rfl, by simpa using h⟩
    | succ k => rw [Nat.pow_zero, Nat.mul_one, Nat.pow_succ, ← Nat.mul_assoc] at h; omega
  | succ l ih =>
    cases k with
    | zero => rw [Nat.pow_zero, Nat.mul_one, Nat.pow_succ, ← Nat.mul_assoc] at h; omega
    | succ k =>
      rw [Nat.pow_succ, Nat.pow_succ, ← Nat.mul_assoc, ← Nat.mul_assoc] at h
      obtain ⟨e1, e2⟩ := ih (k := k) (by omega)
      exact ⟨by rw [e1], e2⟩
theorem od_unique {n o l : Nat} (ho : o % 2 = 1) (h : n = o * 2 ^ l) : lowN n = l ∧ odN n = o := by
  have h0 : n ≠ 0 := fun c => by
    rw [c] at h
    rcases Nat.mul_eq_zero.1 h.symm with c | c
    · exact odd_ne ho c
    · exact absurd c (Nat.pos_iff_ne_zero.1 (Nat.two_pow_pos l))
  obtain ⟨h1, h2⟩ := odN_spec h0
  exact odd_pow h1 ho (h2.symm.trans h)
theorem od_mul {n : Nat} (h0 : n ≠ 0) (k : Nat) : lowN (n * 2 ^ k) = lowN n + k ∧ odN (n * 2 ^ k) = odN n := by
  obtain ⟨h1, h2⟩ := odN_spec h0
  refine od_unique h1 ?_
  rw [Nat.pow_add, ← Nat.mul_assoc, ← h2]
theorem odN_odd {n : Nat} (h : n % 2 = 1) : odN n = n := (od_unique (l := 0) h (by rw [Nat.pow_zero, Nat.mul_one])).2
theorem odN_zero : odN 0 = 0 := by unfold odN; rw [Nat.zero_div]
theorem lowN_is (n : Nat) : IsLow n (lowN n) := by
  refine ⟨fun c => by rw [c, lowN_zero], fun h0 => ?_⟩
  obtain ⟨h1, h2⟩ := odN_spec h0
  refine ⟨?_, fun j hj => ?_⟩
  · rw [dgt_def]; exact h1
  · rw [dgt_def, h2, show lowN n = j + (lowN n - j) by omega, Nat.pow_add, Nat.mul_left_comm, Nat.mul_div_cancel_left _ (Nat.two_pow_pos j), show lowN n - j = (lowN n - j - 1) + 1 by omega, Nat.pow_succ, ← Nat.mul_assoc]
    omega
theorem odN_le (n : Nat) : odN n ≤ n := Nat.div_le_self _ _
theorem nd_odN {n : Nat} (h0 : n ≠ 0) : nd 2 n = nd 2 (odN n) + lowN n := by
  have h := nd_mul_pow (j := lowN n) (odN_pos h0)
  rwa [← (odN_spec h0).2] at h
/-- A Dyad. -/
structure Dy where
  g : Bool
  n : Nat
  x : Int
def Dy.v (d : Dy) : Value := .agg #[.bool d.g, .string (natS d.n), .int .i64 d.x]
def Dy.zero : Dy := ⟨false, 0, 0⟩
def Dy.Num (d : Dy) : Prop := fits d.n ∧ d.n % 2 = 1 ∧ -1048576 ≤ d.x ∧ d.x ≤ 1048576
def Dy.Ok (d : Dy) : Prop := d = Dy.zero ∨ d.Num
theorem Dy.zero_v : Dy.zero.v = .agg #[.bool false, .string ⟨#[]⟩, .int .i64 0] := by unfold Dy.v Dy.zero; rw [natS_zero]
theorem fits_zero : fits 0 := by unfold fits; rw [nd_zero]; omega
theorem DOk_dy {g : Bool} {s : ByteArray} {x : Int} (h : DOk g s x) : ∃ d : Dy, d.Ok ∧ g = d.g ∧ s = natS d.n ∧ x = d.x := by
  rcases h with ⟨rfl, rfl, rfl⟩ | ⟨n, hf, ho, rfl, h1, h2⟩
  · exact ⟨Dy.zero, Or.inl rfl, rfl, natS_zero.symm, rfl⟩
  · exact ⟨⟨g, n, x⟩, Or.inr ⟨hf, ho, h1, h2⟩, rfl, rfl, rfl⟩
/-- Whether a number times a power of two may be a Dyad. -/
def mkOk3 (n : Nat) (x : Int) : Prop := n = 0 ∨ (fits (odN n) ∧ -1048576 ≤ x + lowN n ∧ x + lowN n ≤ 1048576)
instance (n : Nat) (x : Int) : Decidable (mkOk3 n x) := by unfold mkOk3 fits; exact inferInstance
@[irreducible] def mkD (g : Bool) (n : Nat) (x : Int) : Dy := if n ≠ 0 ∧ mkOk3 n x then ⟨g, odN n, x + lowN n⟩ else Dy.zero
@[irreducible] def mkE (n : Nat) (x : Int) : Int := if mkOk3 n x then 0 else 4
theorem mkD_zero (g : Bool) (x : Int) : mkD g 0 x = Dy.zero := by unfold mkD; rw [if_neg (fun c => c.1 rfl)]
theorem mkE_zero (x : Int) : mkE 0 x = 0 := by unfold mkE; exact if_pos (Or.inl rfl)
theorem mkD_ok {g : Bool} {n : Nat} {x : Int} (h0 : n ≠ 0) (h : mkOk3 n x) : mkD g n x = ⟨g, odN n, x + lowN n⟩ := by unfold mkD; rw [if_pos ⟨h0, h⟩]
theorem mkE_ok {n : Nat} {x : Int} (h : mkOk3 n x) : mkE n x = 0 := by unfold mkE; rw [if_pos h]
theorem mkD_no {g : Bool} {n : Nat} {x : Int} (h : ¬ mkOk3 n x) : mkD g n x = Dy.zero := by unfold mkD; rw [if_neg (fun c => h c.2)]
theorem mkE_no {n : Nat} {x : Int} (h : ¬ mkOk3 n x) : mkE n x = 4 := by unfold mkE; rw [if_neg h]
theorem mkD_Ok (g : Bool) (n : Nat) (x : Int) : (mkD g n x).Ok := by
  by_cases h0 : n = 0
  · subst h0; rw [mkD_zero]; exact Or.inl rfl
  · by_cases h : mkOk3 n x
    · rw [mkD_ok h0 h]
      rcases h with h | ⟨h1, h2, h3⟩
      · exact absurd h h0
      · exact Or.inr ⟨h1, (odN_spec h0).1, h2, h3⟩
    · rw [mkD_no h]; exact Or.inl rfl
theorem mkOk3_shift {n : Nat} (k : Nat) {x : Int} : mkOk3 (n * 2 ^ k) (x - k) ↔ mkOk3 n x := by
  by_cases h0 : n = 0
  · subst h0; rw [Nat.zero_mul]; exact ⟨fun _ => Or.inl rfl, fun _ => Or.inl rfl⟩
  · have h1 : n * 2 ^ k ≠ 0 := fun c => by
      rcases Nat.mul_eq_zero.1 c with c | c
      · exact h0 c
      · exact absurd c (Nat.pos_iff_ne_zero.1 (Nat.two_pow_pos k))
    obtain ⟨e1, e2⟩ := od_mul h0 k
    unfold mkOk3
    rw [e1, e2]
    have e : x - (k : Int) + ((lowN n + k : Nat) : Int) = x + lowN n := by omega
    rw [e]
    exact ⟨fun h => h.elim (fun c => absurd c h1) Or.inr, fun h => h.elim (fun c => absurd c h0) Or.inr⟩
theorem mkD_shift (g : Bool) (n k : Nat) (x : Int) : mkD g (n * 2 ^ k) (x - k) = mkD g n x ∧ mkE (n * 2 ^ k) (x - k) = mkE n x := by
  by_cases h0 : n = 0
  · subst h0; rw [Nat.zero_mul, mkD_zero, mkD_zero, mkE_zero, mkE_zero]; exact ⟨rfl, rfl⟩
  · have h1 : n * 2 ^ k ≠ 0 := fun c => by
      rcases Nat.mul_eq_zero.1 c with c | c
      · exact h0 c
      · exact absurd c (Nat.pos_iff_ne_zero.1 (Nat.two_pow_pos k))
    obtain ⟨e1, e2⟩ := od_mul h0 k
    by_cases h : mkOk3 n x
    · rw [mkD_ok h1 ((mkOk3_shift k).2 h), mkD_ok h0 h, mkE_ok ((mkOk3_shift k).2 h), mkE_ok h, e1, e2]
      refine ⟨?_, rfl⟩
      congr 1; omega
    · have h' : ¬ mkOk3 (n * 2 ^ k) (x - k) := fun c => h ((mkOk3_shift k).1 c)
      rw [mkD_no h', mkD_no h, mkE_no h', mkE_no h]; exact ⟨rfl, rfl⟩
/-- A Dyad that may be is made of itself. -/
theorem mkD_self {d : Dy} (h : d.Num) : mkD d.g d.n d.x = d ∧ mkE d.n d.x = 0 := by
  obtain ⟨h1, h2, h3, h4⟩ := h
  have e1 := lowN_odd h2
  have e2 := odN_odd h2
  have hk : mkOk3 d.n d.x := Or.inr ⟨by rw [e2]; exact h1, by rw [e1]; omega, by rw [e1]; omega⟩
  rw [mkD_ok (odd_ne h2) hk, mkE_ok hk, e1, e2]
  refine ⟨?_, rfl⟩
  obtain ⟨g, n, x⟩ := d
  simp
end Go.Proofs.YtjalpocjgpgcfaaGreatDoor
