/- Texts put together: N5 N6 N7 N8 N9 N11 N12 N13 N14 N15 N16 N17 N18 N19 N20 N21 P2 P3 P4 P10 N22 N23. -/
import Derived.Test.YtajcapliokblfaaDoorQ2
import Derived.RegionTactic
import Derived.LoopTactic
import Derived.Laws.Bits64b
import Derived.Lib.ConvBytes
import Derived.Deep.RegionHeld3
import Derived.Deep.RegionWith
import Derived.Deep.CutBlock
import Derived.Deep.DeepCutAuto
import Derived.Laws.AppendOwn
import Derived.Deep.LoopGhost
import Derived.Maps.AppendAt
set_option linter.unusedSimpArgs false
set_option linter.unusedVariables false
namespace Go.Proofs.YtajcapliokblfaaDoor
open Go Go.RowKit Nt

theorem ret_int {k : IntKind} {a b : Int} (h : a = b) : Ending.returned (.int k a) = .returned (.int k b) := by rw [h]
theorem Len_c (A : Option Addr) (c n B : Nat) (w : World) (hL : nd W n ≤ 1000000000) (hr : Row w B A n (nd W n)) :
    Calls Tryd.prog 66 #[.slice A (nd W n) c] w fun e w' => e = .returned (.int .i64 (nd 2 n : Nat)) ∧ w = w' := by
  by_cases h0 : n = 0
  · subst h0
    have h : nd W 0 = 0 := nd_zero _
    rw [h]
    go_enter Tryd.func66, Tryd.ntmps66
    go_wp2
    go_ret
    exact ⟨ret_int (by rw [nd_zero]; rfl), rfl⟩
  · have HR := Lib.hid hr
    have HT := Lib.hid (nd_top (b := 2) (c := W) (e := 64) (by omega) (by omega) W_two n h0)
    have HN : nd W n ≠ 0 := fun c => h0 ((nd_eq_zero W2).1 c)
    obtain ⟨L, hLe⟩ : ∃ L, nd W n = L + 1 := ⟨nd W n - 1, by omega⟩
    rw [hLe] at HR HT hL ⊢
    obtain ⟨g, rfl, _, hcell⟩ := HR.out.at_ (k := L) (by omega)
    have hw := wd_lt n L
    have HB := Lib.hid (bitLen_nd hw)
    have hb64 : Go.Lib.bitLen (dgt W n L) ≤ 64 := by rw [HB.out]; exact nd_le (by omega) hw
    clear hr
    go_enter Tryd.func66, Tryd.ntmps66
    go_wp2_with (go_at_call 91; refine (Tryd.bits_Len64 _ _ (by omega) (by omega)).mono ?_; rintro e w' ⟨rfl, rfl⟩)
    go_ret
    refine ⟨ret_int ?_, rfl⟩
    have h1 := HT.out
    have h2 := HB.out
    rw [Nat.add_sub_cancel] at h1
    rw [h2, h1]; omega

theorem u8_lt (x : UInt8) : x.toNat < 256 := x.toNat_lt
theorem or_word (a v r : Nat) (ha : a < 18446744073709551616) (hv : v < 256) (hr : r < 8) :
    bits BinOp.or IntKind.u64 (a : Int) (IntKind.u64.wrap (IntKind.u64.wrap (v : Int) * 2 ^ (r * 8))) = ((a ||| v * 256 ^ r : Nat) : Int) := by
  have h1 : v * 256 ^ r < 18446744073709551616 := by have := mul_lt_pow (b := 256) hv hr (by omega); rwa [← W_256, W_eq] at this
  have e : IntKind.u64.wrap (IntKind.u64.wrap (v : Int) * 2 ^ (r * 8)) = ((v * 256 ^ r : Nat) : Int) := by
    rw [IntKind.wrap_u64, IntKind.wrap_u64, Int.emod_eq_of_lt (a := (v : Int)) (by omega) (by omega)]
    have e2 : (v : Int) * 2 ^ (r * 8) = ((v * 256 ^ r : Nat) : Int) := by
      rw [Int.natCast_mul, Int.natCast_pow, Nat.mul_comm, Int.pow_mul]; rfl
    rw [e2, Int.emod_eq_of_lt (by omega) (by omega)]
  rw [e, bits_or_u64_nat _ _ ha h1]
set_option maxHeartbeats 400000 in
theorem Read_c (s : ByteArray) (w : World) (hs : s.size ≤ 1000000000) :
    Calls Tryd.prog 63 #[.string s] w (NumPost (bytesN s) w) := by
  obtain ⟨i0, hi0, hz0, hz1, hz2⟩ := info_parts (P := Tryd.prog) (e := 67) (z := .int .u64 0) (size := 1) (bytes := 8) (by kernel_rfl)
  obtain ⟨L, hL⟩ : ∃ L, (s.size + 7) / 8 = L := ⟨_, rfl⟩
  have HL := Lib.hid hL
  have hl : ((s.size : Int) + 7) / 8 = (L : Int) := by omega
  clear hL
  go_enter Tryd.func63, Tryd.ntmps63
  go_wp2_with (at_make; go_loud (refine wpList_make_zero _ rfl (.tmp 9) (.tmp 9) _ rfl 67 i0 _ Tryd.underlying45 hi0 hz0 hz1 .i64 .i64 _ _ L rfl rfl (by first | assumption | rfl) (by first | assumption | rfl) (by rw [hz2]; omega) (by unfold maxLen; omega) ?_))
  rw [wcells_made]
  have HB0 := Lib.hid (Blk.new w 67 (wcells 0 L))
  have hbl : Below w.heap.size w (w.alloc (.cells (wcells 0 L) 67)) := (Below.refl _ _).alloc (Nat.le_refl _) _
  generalize w.alloc (.cells (wcells 0 L) 67) = w1 at *
  obtain ⟨g, hg⟩ : ∃ g, g = w.heap.size := ⟨_, rfl⟩
  rw [← hg] at HB0 hbl ⊢
  have HG := Lib.hid hg
  clear hg
  go_loopw [13] (fun i wr => ∃ k : Nat, k ≤ s.size ∧ i = .int .i64 k ∧ Hid (Blk wr g 67 (wcells (readV s k) L)) ∧ Below g w wr) (fun i _ => s.size - (intOf i).toNat)
  case atStart => exact ⟨0, Nat.zero_le _, rfl, by rw [readV_zero]; exact HB0, hbl⟩
  case round =>
    obtain ⟨k, hk, rfl, hblk, hb⟩ := hrel
    by_cases hlt : k < s.size
    · obtain ⟨m, hm⟩ : ∃ m, s.size = k + 1 + m := ⟨s.size - k - 1, by omega⟩
      obtain ⟨q, hq⟩ : ∃ q, m / 8 = q := ⟨_, rfl⟩
      obtain ⟨r, hr⟩ : ∃ r, m % 8 = r := ⟨_, rfl⟩
      have hqL : q < L := by have := HL.out; omega
      have hc := hblk.out.cell q
      rw [wcells_get _ _ _ hqL] at hc
      have hfz := hblk.out.frozen q
      have hk1 : (s.size : Int) - 1 - (k : Int) = (m : Int) := by omega
      have hq1 : (m : Int) / 8 = (q : Int) := by omega
      have hr1 : (m : Int) % 8 = (r : Int) := by omega
      have hr8 : (r : Int) < 8 := by omega
      have hR8 : r < 8 := by omega
      have HM := Lib.hid hm
      have HQ := Lib.hid hq
      have HR := Lib.hid hr
      clear hm hq hr
      go_wp2
      go_region
      rw [or_word _ _ _ (wd_lt _ _) (u8_lt _) hR8]
      obtain ⟨e1, e2, e3⟩ := read_step s k m q r HM.out hlt HQ.out HR.out
      rw [e1]
      have HB1 := Lib.hid (hblk.out.set_ q (.int .u64 ((dgt W (readV s k) q + (s[k]).toNat * 256 ^ r : Nat) : Int))).drew
      rw [wcells_set _ _ _ _ e2, e3] at HB1
      have hb1 := (hb.setCell (p := ⟨g, q, none⟩) (Nat.le_refl _) (.int .u64 ((dgt W (readV s k) q + (s[k]).toNat * 256 ^ r : Nat) : Int))).drew
      clear e1 e2 e3
      go_wp2
      go_roundw
      case rel => exact ⟨k + 1, by omega, by go_num, HB1, hb1⟩
      case measure => simp [intOf]; omega
    · obtain rfl : k = s.size := by omega
      go_wp2_with fail
      go_at_call 70
      have hbk := hblk.out
      rw [readV_full] at hbk
      refine (Cut_c (some ⟨g, 0, none⟩) L L (bytesN s) wr.heap.size wr ?_ (Nat.le_refl _) (by omega) (Row.of_blk hbk hbk.lt)).mono ?_
      · have := bytesN_lt s
        refine Nat.lt_of_lt_of_le this ?_
        rw [W_256, ← Nat.pow_mul]; exact Nat.pow_le_pow_right (by omega) (by have := HL.out; omega)
      rintro e w' ⟨rfl, rfl⟩
      go_wp2
      go_ret
      have hnd : nd W (bytesN s) ≤ L := by
        have h1 := nd_le (b := 256) (by omega) (bytesN_lt s); rw [← words_bytes]; have := HL.out; omega
      exact NumPost.mk hnd ((Row.of_blk hbk hbk.lt).less hnd) (by rw [← HG.out]; exact hb)
end Go.Proofs.YtajcapliokblfaaDoor
set_option linter.unusedSimpArgs false
set_option linter.unusedVariables false
namespace Go.Proofs.YtajcapliokblfaaDoor
open Go Go.RowKit Nt

/-- Cells of one kind of integers by a function. -/
def fcells (k : IntKind) (f : Nat → Nat) (L : Nat) : Array Value := ((List.range L).map (fun j => Value.int k (f j : Nat))).toArray
theorem fcells_size (k : IntKind) (f : Nat → Nat) (L : Nat) : (fcells k f L).size = L := by simp [fcells]
theorem fcells_get (k : IntKind) (f : Nat → Nat) (L j : Nat) (h : j < L) : (fcells k f L)[j]? = some (.int k (f j : Nat)) := by
  unfold fcells
  rw [List.getElem?_toArray, List.getElem?_map, List.getElem?_range h]; rfl
theorem fcells_congr {k : IntKind} {f f' : Nat → Nat} {L : Nat} (h : ∀ j, j < L → f j = f' j) : fcells k f L = fcells k f' L := by
  unfold fcells; congr 1; apply List.map_congr_left; intro j hj; rw [h j (List.mem_range.1 hj)]
theorem fcells_set (k : IntKind) (f : Nat → Nat) (L i v : Nat) : (fcells k f L).setIfInBounds i (.int k (v : Nat)) = fcells k (fun j => if j = i then v else f j) L := by
  apply Array.ext_getElem?
  intro j
  rw [Array.getElem?_setIfInBounds, fcells_size]
  by_cases hj : j < L
  · rw [fcells_get k (fun j => if j = i then v else f j) L j hj]
    by_cases h : i = j
    · subst h; rw [if_pos rfl, if_pos hj, if_pos rfl]
    · rw [if_neg h, fcells_get k f L j hj, if_neg (fun c => h c.symm)]
  · rw [Array.getElem?_eq_none (xs := fcells k (fun j => if j = i then v else f j) L) (by rw [fcells_size]; omega)]
    by_cases h : i = j
    · subst h; rw [if_pos rfl, if_neg hj]
    · rw [if_neg h, Array.getElem?_eq_none (by rw [fcells_size]; omega)]
theorem fcells_made (k : IntKind) (L : Nat) : madeCells #[.int k 0] L = fcells k (fun _ => 0) L := by
  apply Array.ext_getElem?
  intro j
  by_cases h : j < L
  · rw [fcells_get k _ L j h]
    simp [madeCells, h, Nat.mod_one]
  · rw [Array.getElem?_eq_none (by simp [madeCells]; omega), Array.getElem?_eq_none (by rw [fcells_size]; omega)]
/-- The bytes of a number, the highest first, so many of them. -/
def byteF (n k j : Nat) : Nat := if j < k then dgt 256 n (nd 256 n - 1 - j) else 0
theorem byteF_step (n k j : Nat) : (if j = k then dgt 256 n (nd 256 n - 1 - k) else byteF n k j) = byteF n (k + 1) j := by
  unfold byteF
  by_cases h : j = k
  · subst h; rw [if_pos rfl, if_pos (by omega)]
  · rw [if_neg h]
    by_cases h2 : j < k
    · rw [if_pos h2, if_pos (by omega)]
    · rw [if_neg h2, if_neg (by omega)]
theorem shr_byte (n q r : Nat) (hr : r < 8) : dgt W n q / 256 ^ r % 256 = dgt 256 n (8 * q + r) := by
  have := dgt_in (b := 256) (e := 8) (by omega) n q r hr
  rw [← W_256] at this
  rw [← this, dgt_def 256]
theorem shr_val (n q r : Nat) (hr : r < 8) : ((dgt W n q : Nat) : Int) / 2 ^ (r * 8) % 256 = ((dgt 256 n (8 * q + r) : Nat) : Int) := by
  rw [← shr_byte n q r hr, Int.natCast_emod, Int.natCast_ediv, Int.natCast_pow, Nat.mul_comm r 8, Int.pow_mul]; rfl
theorem shr_word (a r : Nat) : (a : Int) / 2 ^ (r * 8) = ((a / 256 ^ r : Nat) : Int) := by
  rw [Int.natCast_ediv, Int.natCast_pow, Nat.mul_comm, Int.pow_mul]; rfl
theorem wrap_u8 (a : Nat) : IntKind.u8.wrap (a : Int) = ((a % 256 : Nat) : Int) := by
  simp [IntKind.wrap, IntKind.bits, IntKind.signed]
theorem add_plain0 (g j : Nat) : (⟨g, 0, none⟩ : Addr).add j = ⟨g, j, none⟩ := by
  unfold Addr.add; split
  · rename_i h; subst h; rfl
  · simp
set_option maxHeartbeats 400000 in
theorem Bytes_c (A : Option Addr) (c n B : Nat) (w : World) (hL : nd W n ≤ 1000000000) (hr : Row w B A n (nd W n)) (hB : B ≤ w.heap.size) :
    Calls Tryd.prog 67 #[.slice A (nd W n) c] w fun e w' => e = .returned (.string (natS n)) ∧ Below w.heap.size w w' := by
  obtain ⟨i0, hi0, hz0, hz1, hz2⟩ := info_parts (P := Tryd.prog) (e := 5) (z := .int .u8 0) (size := 1) (bytes := 1) (by kernel_rfl)
  have HLN := Lib.hid (words_bytes n)
  have HBB := Lib.hid (bytes_bits n)
  have hl : ((nd 2 n : Int) + 7) / 8 = (nd 256 n : Int) := by have := HBB.out; omega
  have hx : nd 256 n ≤ 8000000000 := by have := HLN.out; omega
  have hx2 : nd 2 n ≤ 64000000000 := by have := HBB.out; omega
  have HR := Lib.hid hr
  clear hr
  go_enter Tryd.func67, Tryd.ntmps67
  go_wp2_with (first | (go_at_call 66; refine (Len_c _ _ _ B _ hL HR.out).mono ?_; rintro e w' ⟨rfl, rfl⟩) | (at_make; go_loud (refine wpList_make_zero _ rfl (.tmp 9) (.tmp 9) _ rfl 5 i0 _ Tryd.underlying74 hi0 hz0 hz1 .i64 .i64 _ _ (nd 256 n) rfl rfl (by first | assumption | rfl) (by first | assumption | rfl) (by rw [hz2]; omega) (by unfold maxLen; omega) ?_)))
  rw [fcells_made]
  have HB0 := Lib.hid (Blk.new w 5 (fcells .u8 (fun _ => 0) (nd 256 n)))
  have hbl : Below w.heap.size w (w.alloc (.cells (fcells .u8 (fun _ => 0) (nd 256 n)) 5)) := (Below.refl _ _).alloc (Nat.le_refl _) _
  generalize w.alloc (.cells (fcells .u8 (fun _ => 0) (nd 256 n)) 5) = w1 at *
  obtain ⟨g, hg⟩ : ∃ g, g = w.heap.size := ⟨_, rfl⟩
  rw [← hg] at HB0 hbl ⊢
  have HG := Lib.hid hg
  clear hg
  obtain ⟨N, hN⟩ : ∃ N, N = nd 256 n := ⟨_, rfl⟩
  rw [← hN] at hl hx HB0 ⊢
  have HN := Lib.hid hN
  clear hN hl
  go_loopw [13] (fun i wr => ∃ k : Nat, k ≤ N ∧ i = .int .i64 k ∧ Hid (Blk wr g 5 (fcells .u8 (byteF n k) N)) ∧ Below g w wr) (fun i _ => N - (intOf i).toNat)
  case atStart => exact ⟨0, Nat.zero_le _, rfl, by rw [fcells_congr (f' := fun _ => 0) (fun j _ => by unfold byteF; rw [if_neg (by omega)])]; exact HB0, hbl⟩
  case round =>
    obtain ⟨k, hk, rfl, hblk, hb⟩ := hrel
    by_cases hlt : k < N
    · obtain ⟨m, hm⟩ : ∃ m, N = k + 1 + m := ⟨N - k - 1, by omega⟩
      obtain ⟨q, hq⟩ : ∃ q, m / 8 = q := ⟨_, rfl⟩
      obtain ⟨r, hr⟩ : ∃ r, m % 8 = r := ⟨_, rfl⟩
      have hqL : q < nd W n := by have := HLN.out; have := HN.out; omega
      obtain ⟨ga, rfl, hga, hca⟩ := HR.out.at_ hqL
      have hca2 := (hb.cell (p := ⟨ga, q, none⟩) (by have := HG.out; show ga < g; omega)).trans hca
      have hfz := hblk.out.frozen k
      have hck := hblk.out.cell k
      rw [fcells_get _ _ _ _ hlt] at hck
      have hk1 : (N : Int) - 1 - (k : Int) = (m : Int) := by omega
      have hq1 : (m : Int) / 8 = (q : Int) := by omega
      have hr1 : (m : Int) % 8 = (r : Int) := by omega
      have hr8 : (r : Int) < 8 := by omega
      have hR8 : r < 8 := by omega
      have HM := Lib.hid hm
      have HQ := Lib.hid hq
      have HR' := Lib.hid hr
      clear hm hq hr hca
      go_wp2
      rw [shr_val n q r hR8]
      have hv : 8 * q + r = nd 256 n - 1 - k := by have := HM.out; have := HN.out; have := HQ.out; have := HR'.out; omega
      rw [hv]
      have HB1 := Lib.hid (hblk.out.set_ k (.int .u8 ((dgt 256 n (nd 256 n - 1 - k) : Nat) : Int)))
      rw [fcells_set, fcells_congr (f' := byteF n (k + 1)) (fun j _ => byteF_step n k j)] at HB1
      have hb1 := hb.setCell (p := ⟨g, k, none⟩) (Nat.le_refl _) (.int .u8 ((dgt 256 n (nd 256 n - 1 - k) : Nat) : Int))
      go_roundw
      case rel => exact ⟨k + 1, by omega, by go_num, HB1, hb1⟩
      case measure => simp [intOf]; omega
    · obtain rfl : k = N := by omega
      have hcv : (convert 74 9 (.slice (some ⟨g, 0, none⟩) k k)).run Tryd.prog wr = .ok (.string (natS n)) wr := by
        have hN := HN.out
        have hl : ((dl 256 n (nd 256 n)).reverse.map UInt8.ofNat).length = k := by simp [dl_length, hN]
        have h := run_convert_bytes_back (P := Tryd.prog) wr 74 9 5 ⟨g, 0, none⟩ k ((dl 256 n (nd 256 n)).reverse.map UInt8.ofNat) Tryd.underlying74 Tryd.underlying5 Tryd.underlying9 (fun j hj => by
          rw [add_plain0, hblk.out.cell, fcells_get _ _ _ _ (by rw [← hl]; exact hj)]
          have e := natS_get n j (by rw [natS_size, ← hN, ← hl]; exact hj)
          rw [ba_get] at e
          simp only [natS_def] at e
          rw [List.getElem_toArray] at e
          rw [e]
          unfold byteF
          rw [if_pos (by rw [← hl]; exact hj)])
        rw [hl, ← natS_def] at h
        exact h
      go_wp2
      go_ret
      exact ⟨rfl, by rw [← HG.out]; exact hb⟩
end Go.Proofs.YtajcapliokblfaaDoor
set_option linter.unusedSimpArgs false
set_option linter.unusedVariables false
namespace Go.Proofs.YtajcapliokblfaaDoor
open Go Go.RowKit Nt

@[irreducible] def cmpN (a b : Nat) : Int := if a < b then -1 else if a = b then 0 else 1
theorem cmpN_lt {a b : Nat} (h : a < b) : cmpN a b = -1 := by unfold cmpN; rw [if_pos h]
theorem cmpN_eq (a : Nat) : cmpN a a = 0 := by unfold cmpN; rw [if_neg (by omega), if_pos rfl]
theorem cmpN_gt {a b : Nat} (h : b < a) : cmpN a b = 1 := by unfold cmpN; rw [if_neg (by omega), if_neg (by omega)]
theorem lt_of_nd {b m n : Nat} (hb : 2 ≤ b) (h : nd b m < nd b n) : m < n := by
  have h1 := lt_nd (n := m) hb
  have h2 := (pow_le_iff hb _ _).2 h
  omega
theorem lt_of_digit {b x y m L : Nat} (hb : 2 ≤ b) (hx : x < b ^ L) (hy : y < b ^ L) (hm : m < L) (h : ∀ j, m + 1 ≤ j → j < L → dgt b x j = dgt b y j) (hd : dgt b x m < dgt b y m) : x < y := by
  have key : x / b ^ (m + 1) = y / b ^ (m + 1) := by
    obtain ⟨d, rfl⟩ : ∃ d, L = m + 1 + d := ⟨L - (m + 1), by omega⟩
    refine eq_of_digits (b := b) (L := d) ?_ ?_ (fun i hi => ?_)
    · rw [Nat.div_lt_iff_lt_mul (Nat.pow_pos (by omega)), ← Nat.pow_add, Nat.add_comm d]; exact hx
    · rw [Nat.div_lt_iff_lt_mul (Nat.pow_pos (by omega)), ← Nat.pow_add, Nat.add_comm d]; exact hy
    · rw [dgt_skip, dgt_skip]; exact h _ (by omega) (by omega)
  have h1 := div_eq_dgt (b := b) (by omega) x m
  have h2 := div_eq_dgt (b := b) (by omega) y m
  rw [key] at h1
  rcases Nat.lt_or_ge x y with h3 | h3
  · exact h3
  · have := Nat.div_le_div_right (c := b ^ m) h3; omega
/-- Only draws happened. -/
def Drawn (w w' : World) : Prop := ∃ n, w' = w.drewN n
theorem Drawn.refl (w : World) : Drawn w w := ⟨0, rfl⟩
theorem Drawn.more {w w' : World} (h : Drawn w w') (m : Nat) : Drawn w (w'.drewN m) := by obtain ⟨n, rfl⟩ := h; exact ⟨n + m, World.drewN_drewN _ _ _⟩
set_option maxHeartbeats 400000 in
theorem Cmp_c (A A' : Option Addr) (c c' a b B : Nat) (w : World) (hL : nd W a ≤ 1000000000) (hL' : nd W b ≤ 1000000000) (hr : Row w B A a (nd W a)) (hr' : Row w B A' b (nd W b)) :
    Calls Tryd.prog 44 #[.slice A (nd W a) c, .slice A' (nd W b) c'] w fun e w' => e = .returned (.int .i64 (cmpN a b)) ∧ ∃ n, w' = w.drewN n := by
  have HR := Lib.hid hr
  have HR' := Lib.hid hr'
  clear hr hr'
  rcases Nat.lt_trichotomy (nd W a) (nd W b) with h | h | h
  · have hn : ((nd W a : Int) != (nd W b : Int)) = true := by rw [bne_iff_ne]; omega
    have HC := Lib.hid (cmpN_lt (lt_of_nd W2 h))
    go_enter Tryd.func44, Tryd.ntmps44
    go_wp2
    go_ret
    exact ⟨ret_int HC.out.symm, 0, rfl⟩
  · have ha := lt_nd (n := a) W2
    have hb := lt_nd (n := b) W2
    rw [← h] at hb hL' HR' ⊢
    have HA := Lib.hid ha
    have HB := Lib.hid hb
    have HE := Lib.hid h
    clear ha hb h
    obtain ⟨L, hLe⟩ : ∃ L, L = nd W a := ⟨_, rfl⟩
    have hLL : L ≤ 1000000000 := by omega
    rw [← hLe] at HA HB HR HR' ⊢
    have hw : wrap64 ((L : Int) - 1) = (L : Int) - 1 := IntWalk.wrap64_in _ (by omega)
    have hn : ((L : Int) != (L : Int)) = false := by simp
    have HLE := Lib.hid hLe
    clear hLe
    go_enter Tryd.func44, Tryd.ntmps44
    go_wp2
    go_loopw [5] (fun i wr => ∃ (k : Nat) (z : Int) (m : Nat), k ≤ L ∧ i = .int .i64 z ∧ Hid (z = (k : Int) - 1) ∧ Hid (∀ j, k ≤ j → j < L → dgt W a j = dgt W b j) ∧ wr = w.drewN m) (fun i _ => (intOf i + 1).toNat)
    case atStart => exact ⟨L, _, 0, Nat.le_refl _, rfl, Lib.hid rfl, Lib.hid (fun j h1 h2 => by omega), rfl⟩
    case round =>
      obtain ⟨k, z, mm, hk, rfl, hz, hd, rfl⟩ := hrel
      by_cases h0 : k = 0
      · subst h0
        obtain rfl : z = -1 := by have := hz.out; omega
        go_wp2
        go_ret
        refine ⟨ret_int ?_, _, rfl⟩
        obtain rfl : a = b := eq_of_digits HA.out HB.out (fun i hi => hd.out i (by omega) hi)
        exact (cmpN_eq _).symm
      · obtain ⟨m, rfl⟩ : ∃ m, k = m + 1 := ⟨k - 1, by omega⟩
        obtain rfl : z = (m : Int) := by have := hz.out; omega
        obtain ⟨g, rfl, _, hc⟩ := HR.out.at_ (k := m) (by omega)
        obtain ⟨g', rfl, _, hc'⟩ := HR'.out.at_ (k := m) (by omega)
        have hm : m < L := by omega
        have hw : wrap64 ((m : Int) - 1) = (m : Int) - 1 := IntWalk.wrap64_in _ (by omega)
        rcases Nat.lt_trichotomy (dgt W a m) (dgt W b m) with hlt | heq | hgt
        · have HC := Lib.hid (cmpN_lt (lt_of_digit W2 HA.out HB.out hm hd.out hlt))
          go_wp2
          go_quiet (fail)
          go_wp2
          go_ret
          exact ⟨ret_int HC.out.symm, by first | exact Drawn.more ⟨_, rfl⟩ _ | exact Drawn.more (Drawn.more ⟨_, rfl⟩ _) _⟩
        · have HD := Lib.hid heq
          have h1 : ¬ dgt W a m < dgt W b m := by omega
          have h2 : ¬ dgt W b m < dgt W a m := by omega
          clear heq
          go_wp2
          go_quiet (fail)
          go_wp2
          go_quiet (fail)
          go_wp2
          go_roundw
          case rel => exact ⟨m, _, _, by omega, rfl, Lib.hid rfl, Lib.hid (fun j h1 h2 => by
            rcases Nat.lt_or_ge m j with h3 | h3
            · exact hd.out j h3 h2
            · obtain rfl : j = m := by omega
              exact HD.out), rfl⟩
          case measure => simp [intOf]
        · have HC := Lib.hid (cmpN_gt (lt_of_digit W2 HB.out HA.out hm (fun j h1 h2 => (hd.out j h1 h2).symm) hgt))
          have h1 : ¬ dgt W a m < dgt W b m := by omega
          go_wp2
          go_quiet (fail)
          go_wp2
          go_quiet (fail)
          go_wp2
          go_ret
          exact ⟨ret_int HC.out.symm, by first | exact Drawn.more ⟨_, rfl⟩ _ | exact Drawn.more (Drawn.more ⟨_, rfl⟩ _) _⟩
  · have hn : ((nd W a : Int) != (nd W b : Int)) = true := by rw [bne_iff_ne]; omega
    have HC := Lib.hid (cmpN_gt (lt_of_nd W2 h))
    have h2 : ¬ nd W a < nd W b := by omega
    go_enter Tryd.func44, Tryd.ntmps44
    go_wp2
    go_ret
    exact ⟨ret_int HC.out.symm, 0, rfl⟩
end Go.Proofs.YtajcapliokblfaaDoor
set_option linter.unusedSimpArgs false
set_option linter.unusedVariables false
namespace Go.Proofs.YtajcapliokblfaaDoor
open Go Go.RowKit Nt

theorem add_word (x y i : Nat) : (dgt W x i + dgt W y i + car W x y i) % 18446744073709551616 = dgt W (x + y) i := by rw [dgt_add W0, W_eq]
theorem add_carry (x y i : Nat) : (dgt W x i + dgt W y i + car W x y i) / 18446744073709551616 = car W x y (i + 1) := by rw [car_succ W0, W_eq]
/-- The sum, when i words of it stand. -/
theorem put_sum (s i : Nat) : put W (s % W ^ i) i (dgt W s i) = s % W ^ (i + 1) := put_mod W2 s i
theorem mod_one (s : Nat) : s % W ^ 0 = 0 := by rw [Nat.pow_zero, Nat.mod_one]
set_option maxHeartbeats 1000000 in
/-- The loop of Add, where a has no fewer words. -/
theorem Add_ge (A A' : Option Addr) (c c' a b B : Nat) (w : World) (hL : nd W a ≤ 1000000000) (hL' : nd W b ≤ nd W a) (hr : Row w B A a (nd W a)) (hr' : Row w B A' b (nd W b)) (hBs : B ≤ w.heap.size) :
    Calls Tryd.prog 43 #[.slice A (nd W a) c, .slice A' (nd W b) c'] w (NumPost (a + b) w) := by
  obtain ⟨i0, hi0, hz0, hz1, hz2⟩ := info_parts (P := Tryd.prog) (e := 67) (z := .int .u64 0) (size := 1) (bytes := 8) (by kernel_rfl)
  have HR := Lib.hid hr
  have HR' := Lib.hid hr'
  have HA := Lib.hid (lt_nd (n := a) W2)
  have HB := Lib.hid (lt_nd (n := b) W2)
  clear hr hr'
  have hn : ¬ nd W a < nd W b := by omega
  go_enter Tryd.func43, Tryd.ntmps43
  go_wp2_with (at_make; go_loud (refine wpList_make_zero _ rfl (.tmp 19) (.tmp 19) _ rfl 67 i0 _ Tryd.underlying45 hi0 hz0 hz1 .i64 .i64 _ _ (nd W a + 1) rfl rfl (by omega) (by omega) (by rw [hz2]; omega) (by unfold maxLen; omega) ?_))
  rw [wcells_made]
  have HB0 := Lib.hid (Blk.new w 67 (wcells 0 (nd W a + 1)))
  have hbl : Below w.heap.size w (w.alloc (.cells (wcells 0 (nd W a + 1)) 67)) := (Below.refl _ _).alloc (Nat.le_refl _) _
  generalize w.alloc (.cells (wcells 0 (nd W a + 1)) 67) = w1 at *
  obtain ⟨g, hg⟩ : ∃ g, g = w.heap.size := ⟨_, rfl⟩
  rw [← hg] at HB0 hbl hBs ⊢
  have HG := Lib.hid hg
  clear hg
  go_loopw [6, 23] (fun cy i wr => ∃ k : Nat, k ≤ nd W a ∧ i = .int .i64 k ∧ cy = .int .u64 (car W a b k : Nat) ∧ Hid (Blk wr g 67 (wcells ((a + b) % W ^ k) (nd W a + 1))) ∧ Below g w wr) (fun _ i _ => nd W a - (intOf i).toNat)
  case atStart => exact ⟨0, Nat.zero_le _, rfl, by rw [car_zero]; rfl, by rw [mod_one]; exact HB0, hbl⟩
  case round =>
    obtain ⟨k, hk, rfl, rfl, hblk, hb⟩ := hrel
    by_cases hlt : k < nd W a
    · obtain ⟨ga, rfl, hga, hca⟩ := HR.out.at_ hlt
      have hca2 := (hb.cell (p := ⟨ga, k, none⟩) (by show ga < g; omega)).trans hca
      have hfz := hblk.out.frozen k
      have hck := hblk.out.cell k
      rw [wcells_get _ _ _ (by omega)] at hck
      have hc1 := car_le W0 a b k
      clear hca
      by_cases hlt' : k < nd W b
      · obtain ⟨gb, rfl, hgb, hcb⟩ := HR'.out.at_ hlt'
        have hcb2 := (hb.cell (p := ⟨gb, k, none⟩) (by show gb < g; omega)).trans hcb
        clear hcb
        have hadd : ∀ w, (callFunc 69 #[.int .u64 (dgt W a k : Nat), .int .u64 (dgt W b k : Nat), .int .u64 (car W a b k : Nat)]).run Tryd.prog w = .ok (.value (.tuple #[.int .u64 (dgt W (a + b) k : Nat), .int .u64 (car W a b (k + 1) : Nat)])) w := fun w => by
          rw [Tryd.bits_Add64 _ _ _ hc1 w, add_word, add_carry]
        have HS := Lib.hid hblk
        have HB1 := Lib.hid (hblk.out.set_ k (.int .u64 (dgt W (a + b) k : Nat)))
        rw [wcells_set _ _ _ _ (wd_lt _ _), put_sum] at HB1
        have hb1 := hb.setCell (p := ⟨g, k, none⟩) (Nat.le_refl _) (.int .u64 (dgt W (a + b) k : Nat))
        go_wp2_with (simp only [hadd])
        go_roundw
        case rel => exact ⟨k + 1, by omega, by go_num, rfl, HB1, hb1⟩
        case measure => simp [intOf]; omega
      · have hadd : ∀ w, (callFunc 69 #[.int .u64 (dgt W a k : Nat), .int .u64 0, .int .u64 (car W a b k : Nat)]).run Tryd.prog w = .ok (.value (.tuple #[.int .u64 (dgt W (a + b) k : Nat), .int .u64 (car W a b (k + 1) : Nat)])) w := fun w => by
          have h := Tryd.bits_Add64 (dgt W a k) (dgt W b k) _ hc1 w
          rw [add_word, add_carry] at h
          have e : dgt W b k = 0 := dgt_big W2 (by omega)
          rw [e] at h
          exact h
        have HB1 := Lib.hid (hblk.out.set_ k (.int .u64 (dgt W (a + b) k : Nat)))
        rw [wcells_set _ _ _ _ (wd_lt _ _), put_sum] at HB1
        have hb1 := hb.setCell (p := ⟨g, k, none⟩) (Nat.le_refl _) (.int .u64 (dgt W (a + b) k : Nat))
        go_wp2_with (simp only [hadd])
        go_roundw
        case rel => exact ⟨k + 1, by omega, by go_num, rfl, HB1, hb1⟩
        case measure => simp [intOf]; omega
    · obtain rfl : k = nd W a := by omega
      have hfz := hblk.out.frozen (nd W a)
      have hck := hblk.out.cell (nd W a)
      rw [wcells_get _ _ _ (by omega)] at hck
      have hB' : b < W ^ nd W a := (lt_pow_iff W2 _ _).2 hL'
      rw [car_last W2 a b _ HA.out hB']
      have hs : a + b < W ^ (nd W a + 1) := by
        have h1 := HA.out
        rw [Nat.pow_succ]
        have h2 : 2 * W ^ nd W a ≤ W ^ nd W a * W := by rw [Nat.mul_comm]; exact Nat.mul_le_mul_left _ W2
        omega
      have HB1 := hblk.out.set_ (nd W a) (.int .u64 (dgt W (a + b) (nd W a) : Nat))
      rw [wcells_set _ _ _ _ (wd_lt _ _), put_sum, Nat.mod_eq_of_lt hs] at HB1
      have HB1' := Lib.hid HB1
      have hb1 := hb.setCell (p := ⟨g, nd W a, none⟩) (Nat.le_refl _) (.int .u64 (dgt W (a + b) (nd W a) : Nat))
      have HS := Lib.hid hs
      clear HB1 hs hB'
      go_wp2_with fail
      refine (Cut_c (some ⟨g, 0, none⟩) (nd W a + 1) (nd W a + 1) (a + b) (g + 1) _ HS.out (Nat.le_refl _) (by omega) (Row.of_blk HB1'.out (by omega))).mono ?_
      rintro e w' ⟨rfl, rfl⟩
      go_wp2
      go_ret
      have hnd := nd_le W2 HS.out
      exact NumPost.mk hnd ((Row.of_blk HB1'.out HB1'.out.lt).less hnd) (by rw [← HG.out]; exact hb1)
set_option maxHeartbeats 1000000 in
/-- The same, handed in the other way round. -/
theorem Add_lt (A A' : Option Addr) (c c' a b B : Nat) (w : World) (hL : nd W a ≤ 1000000000) (hL' : nd W b < nd W a) (hr : Row w B A a (nd W a)) (hr' : Row w B A' b (nd W b)) (hBs : B ≤ w.heap.size) :
    Calls Tryd.prog 43 #[.slice A' (nd W b) c', .slice A (nd W a) c] w (NumPost (a + b) w) := by
  obtain ⟨i0, hi0, hz0, hz1, hz2⟩ := info_parts (P := Tryd.prog) (e := 67) (z := .int .u64 0) (size := 1) (bytes := 8) (by kernel_rfl)
  have HR := Lib.hid hr
  have HR' := Lib.hid hr'
  have HA := Lib.hid (lt_nd (n := a) W2)
  have HB := Lib.hid (lt_nd (n := b) W2)
  clear hr hr'
  have hn : nd W b < nd W a := by omega
  go_enter Tryd.func43, Tryd.ntmps43
  go_wp2_with (at_make; go_loud (refine wpList_make_zero _ rfl (.tmp 19) (.tmp 19) _ rfl 67 i0 _ Tryd.underlying45 hi0 hz0 hz1 .i64 .i64 _ _ (nd W a + 1) rfl rfl (by omega) (by omega) (by rw [hz2]; omega) (by unfold maxLen; omega) ?_))
  rw [wcells_made]
  have HB0 := Lib.hid (Blk.new w 67 (wcells 0 (nd W a + 1)))
  have hbl : Below w.heap.size w (w.alloc (.cells (wcells 0 (nd W a + 1)) 67)) := (Below.refl _ _).alloc (Nat.le_refl _) _
  generalize w.alloc (.cells (wcells 0 (nd W a + 1)) 67) = w1 at *
  obtain ⟨g, hg⟩ : ∃ g, g = w.heap.size := ⟨_, rfl⟩
  rw [← hg] at HB0 hbl hBs ⊢
  have HG := Lib.hid hg
  clear hg
  go_loopw [6, 23] (fun cy i wr => ∃ k : Nat, k ≤ nd W a ∧ i = .int .i64 k ∧ cy = .int .u64 (car W a b k : Nat) ∧ Hid (Blk wr g 67 (wcells ((a + b) % W ^ k) (nd W a + 1))) ∧ Below g w wr) (fun _ i _ => nd W a - (intOf i).toNat)
  case atStart => exact ⟨0, Nat.zero_le _, rfl, by rw [car_zero]; rfl, by rw [mod_one]; exact HB0, hbl⟩
  case round =>
    obtain ⟨k, hk, rfl, rfl, hblk, hb⟩ := hrel
    by_cases hlt : k < nd W a
    · obtain ⟨ga, rfl, hga, hca⟩ := HR.out.at_ hlt
      have hca2 := (hb.cell (p := ⟨ga, k, none⟩) (by show ga < g; omega)).trans hca
      have hfz := hblk.out.frozen k
      have hck := hblk.out.cell k
      rw [wcells_get _ _ _ (by omega)] at hck
      have hc1 := car_le W0 a b k
      clear hca
      by_cases hlt' : k < nd W b
      · obtain ⟨gb, rfl, hgb, hcb⟩ := HR'.out.at_ hlt'
        have hcb2 := (hb.cell (p := ⟨gb, k, none⟩) (by show gb < g; omega)).trans hcb
        clear hcb
        have hadd : ∀ w, (callFunc 69 #[.int .u64 (dgt W a k : Nat), .int .u64 (dgt W b k : Nat), .int .u64 (car W a b k : Nat)]).run Tryd.prog w = .ok (.value (.tuple #[.int .u64 (dgt W (a + b) k : Nat), .int .u64 (car W a b (k + 1) : Nat)])) w := fun w => by
          rw [Tryd.bits_Add64 _ _ _ hc1 w, add_word, add_carry]
        have HS := Lib.hid hblk
        have HB1 := Lib.hid (hblk.out.set_ k (.int .u64 (dgt W (a + b) k : Nat)))
        rw [wcells_set _ _ _ _ (wd_lt _ _), put_sum] at HB1
        have hb1 := hb.setCell (p := ⟨g, k, none⟩) (Nat.le_refl _) (.int .u64 (dgt W (a + b) k : Nat))
        go_wp2_with (simp only [hadd])
        go_roundw
        case rel => exact ⟨k + 1, by omega, by go_num, rfl, HB1, hb1⟩
        case measure => simp [intOf]; omega
      · have hadd : ∀ w, (callFunc 69 #[.int .u64 (dgt W a k : Nat), .int .u64 0, .int .u64 (car W a b k : Nat)]).run Tryd.prog w = .ok (.value (.tuple #[.int .u64 (dgt W (a + b) k : Nat), .int .u64 (car W a b (k + 1) : Nat)])) w := fun w => by
          have h := Tryd.bits_Add64 (dgt W a k) (dgt W b k) _ hc1 w
          rw [add_word, add_carry] at h
          have e : dgt W b k = 0 := dgt_big W2 (by omega)
          rw [e] at h
          exact h
        have HB1 := Lib.hid (hblk.out.set_ k (.int .u64 (dgt W (a + b) k : Nat)))
        rw [wcells_set _ _ _ _ (wd_lt _ _), put_sum] at HB1
        have hb1 := hb.setCell (p := ⟨g, k, none⟩) (Nat.le_refl _) (.int .u64 (dgt W (a + b) k : Nat))
        go_wp2_with (simp only [hadd])
        go_roundw
        case rel => exact ⟨k + 1, by omega, by go_num, rfl, HB1, hb1⟩
        case measure => simp [intOf]; omega
    · obtain rfl : k = nd W a := by omega
      have hfz := hblk.out.frozen (nd W a)
      have hck := hblk.out.cell (nd W a)
      rw [wcells_get _ _ _ (by omega)] at hck
      have hB' : b < W ^ nd W a := (lt_pow_iff W2 _ _).2 (by omega)
      rw [car_last W2 a b _ HA.out hB']
      have hs : a + b < W ^ (nd W a + 1) := by
        have h1 := HA.out
        rw [Nat.pow_succ]
        have h2 : 2 * W ^ nd W a ≤ W ^ nd W a * W := by rw [Nat.mul_comm]; exact Nat.mul_le_mul_left _ W2
        omega
      have HB1 := hblk.out.set_ (nd W a) (.int .u64 (dgt W (a + b) (nd W a) : Nat))
      rw [wcells_set _ _ _ _ (wd_lt _ _), put_sum, Nat.mod_eq_of_lt hs] at HB1
      have HB1' := Lib.hid HB1
      have hb1 := hb.setCell (p := ⟨g, nd W a, none⟩) (Nat.le_refl _) (.int .u64 (dgt W (a + b) (nd W a) : Nat))
      have HS := Lib.hid hs
      clear HB1 hs hB'
      go_wp2_with fail
      refine (Cut_c (some ⟨g, 0, none⟩) (nd W a + 1) (nd W a + 1) (a + b) (g + 1) _ HS.out (Nat.le_refl _) (by omega) (Row.of_blk HB1'.out (by omega))).mono ?_
      rintro e w' ⟨rfl, rfl⟩
      go_wp2
      go_ret
      have hnd := nd_le W2 HS.out
      exact NumPost.mk hnd ((Row.of_blk HB1'.out HB1'.out.lt).less hnd) (by rw [← HG.out]; exact hb1)
theorem Add_c (A A' : Option Addr) (c c' a b B : Nat) (w : World) (hL : nd W a ≤ 1000000000) (hL' : nd W b ≤ 1000000000) (hr : Row w B A a (nd W a)) (hr' : Row w B A' b (nd W b)) (hBs : B ≤ w.heap.size) :
    Calls Tryd.prog 43 #[.slice A (nd W a) c, .slice A' (nd W b) c'] w (NumPost (a + b) w) := by
  rcases Nat.lt_or_ge (nd W a) (nd W b) with h | h
  · rw [Nat.add_comm]; exact Add_lt A' A c' c b a B w hL' h hr' hr hBs
  · exact Add_ge A A' c c' a b B w hL h hr hr' hBs
theorem sub_word (x y i : Nat) (h : y ≤ x) : (dgt W x i + 18446744073709551616 - dgt W y i - bor W x y i) % 18446744073709551616 = dgt W (x - y) i := by rw [dgt_sub W2 _ _ _ h, W_eq]
theorem sub_borrow (x y i : Nat) : (if dgt W x i < dgt W y i + bor W x y i then 1 else 0) = bor W x y (i + 1) := by rw [bor_succ W0]
set_option maxHeartbeats 1000000 in
theorem Sub_c (A A' : Option Addr) (c c' a b B : Nat) (w : World) (hba : b ≤ a) (hL : nd W a ≤ 1000000000) (hr : Row w B A a (nd W a)) (hr' : Row w B A' b (nd W b)) (hBs : B ≤ w.heap.size) :
    Calls Tryd.prog 45 #[.slice A (nd W a) c, .slice A' (nd W b) c'] w (NumPost (a - b) w) := by
  obtain ⟨i0, hi0, hz0, hz1, hz2⟩ := info_parts (P := Tryd.prog) (e := 67) (z := .int .u64 0) (size := 1) (bytes := 8) (by kernel_rfl)
  have HBA := Lib.hid hba
  have HR := Lib.hid hr
  have HR' := Lib.hid hr'
  have HA := Lib.hid (lt_nd (n := a) W2)
  have hL' := nd_mono W2 hba
  clear hr hr' hba
  go_enter Tryd.func45, Tryd.ntmps45
  go_wp2_with (at_make; go_loud (refine wpList_make_zero _ rfl (.tmp 11) (.tmp 11) _ rfl 67 i0 _ Tryd.underlying45 hi0 hz0 hz1 .i64 .i64 _ _ (nd W a) rfl rfl rfl rfl (by rw [hz2]; omega) (by unfold maxLen; omega) ?_))
  rw [wcells_made]
  have HB0 := Lib.hid (Blk.new w 67 (wcells 0 (nd W a)))
  have hbl : Below w.heap.size w (w.alloc (.cells (wcells 0 (nd W a)) 67)) := (Below.refl _ _).alloc (Nat.le_refl _) _
  generalize w.alloc (.cells (wcells 0 (nd W a)) 67) = w1 at *
  obtain ⟨g, hg⟩ : ∃ g, g = w.heap.size := ⟨_, rfl⟩
  rw [← hg] at HB0 hbl hBs ⊢
  have HG := Lib.hid hg
  clear hg
  go_loopw [6, 15] (fun cy i wr => ∃ k : Nat, k ≤ nd W a ∧ i = .int .i64 k ∧ cy = .int .u64 (bor W a b k : Nat) ∧ Hid (Blk wr g 67 (wcells ((a - b) % W ^ k) (nd W a))) ∧ Below g w wr) (fun _ i _ => nd W a - (intOf i).toNat)
  case atStart => exact ⟨0, Nat.zero_le _, rfl, by rw [bor_zero]; rfl, by rw [mod_one]; exact HB0, hbl⟩
  case round =>
    obtain ⟨k, hk, rfl, rfl, hblk, hb⟩ := hrel
    by_cases hlt : k < nd W a
    · obtain ⟨ga, rfl, hga, hca⟩ := HR.out.at_ hlt
      have hca2 := (hb.cell (p := ⟨ga, k, none⟩) (by show ga < g; omega)).trans hca
      have hfz := hblk.out.frozen k
      have hck := hblk.out.cell k
      rw [wcells_get _ _ _ (by omega)] at hck
      have hc1 := bor_le W a b k
      clear hca
      have hsub' : ∀ w, (callFunc 71 #[.int .u64 (dgt W a k : Nat), .int .u64 (dgt W b k : Nat), .int .u64 (bor W a b k : Nat)]).run Tryd.prog w = .ok (.value (.tuple #[.int .u64 (dgt W (a - b) k : Nat), .int .u64 (bor W a b (k + 1) : Nat)])) w := fun w => by
        rw [Tryd.bits_Sub64 _ _ _ hc1 w, sub_word _ _ _ HBA.out, sub_borrow]
      have HS := Lib.hid hsub'
      clear hsub'
      have HB1 := Lib.hid (hblk.out.set_ k (.int .u64 (dgt W (a - b) k : Nat)))
      rw [wcells_set _ _ _ _ (wd_lt _ _), put_sum] at HB1
      have hb1 := hb.setCell (p := ⟨g, k, none⟩) (Nat.le_refl _) (.int .u64 (dgt W (a - b) k : Nat))
      by_cases hlt' : k < nd W b
      · obtain ⟨gb, rfl, hgb, hcb⟩ := HR'.out.at_ hlt'
        have hcb2 := (hb.cell (p := ⟨gb, k, none⟩) (by show gb < g; omega)).trans hcb
        clear hcb
        have hadd := HS.out
        go_wp2_with (simp only [hadd])
        go_roundw
        case rel => exact ⟨k + 1, by omega, by go_num, rfl, HB1, hb1⟩
        case measure => simp [intOf]; omega
      · have hadd : ∀ w, (callFunc 71 #[.int .u64 (dgt W a k : Nat), .int .u64 0, .int .u64 (bor W a b k : Nat)]).run Tryd.prog w = .ok (.value (.tuple #[.int .u64 (dgt W (a - b) k : Nat), .int .u64 (bor W a b (k + 1) : Nat)])) w := fun w => by
          have h := HS.out w
          have e : dgt W b k = 0 := dgt_big W2 (by omega)
          rw [e] at h
          exact h
        go_wp2_with (simp only [hadd])
        go_roundw
        case rel => exact ⟨k + 1, by omega, by go_num, rfl, HB1, hb1⟩
        case measure => simp [intOf]; omega
    · obtain rfl : k = nd W a := by omega
      have hs : a - b < W ^ nd W a := Nat.lt_of_le_of_lt (Nat.sub_le _ _) HA.out
      have HS := Lib.hid hs
      have HB1 := hblk.out
      rw [Nat.mod_eq_of_lt hs] at HB1
      have HB1' := Lib.hid HB1
      clear HB1 hs
      go_wp2_with fail
      refine (Cut_c (some ⟨g, 0, none⟩) (nd W a) (nd W a) (a - b) (g + 1) _ HS.out (Nat.le_refl _) (by omega) (Row.of_blk HB1'.out (by omega))).mono ?_
      rintro e w' ⟨rfl, rfl⟩
      go_wp2
      go_ret
      have hnd := nd_le W2 HS.out
      exact NumPost.mk hnd ((Row.of_blk HB1'.out HB1'.out.lt).less hnd) (by rw [← HG.out]; exact hb)
end Go.Proofs.YtajcapliokblfaaDoor
set_option linter.unusedSimpArgs false
set_option linter.unusedVariables false
namespace Go.Proofs.YtajcapliokblfaaDoor
open Go Go.RowKit Nt

theorem mca_low (x y m i : Nat) : (dgt W x i * y % 18446744073709551616 + mca W x y m i + 0) % 18446744073709551616 = dgt W (x * y + m) i := by
  rw [Nat.add_zero, two_mod, dgt_mca W0, W_eq]
theorem mca_high (x y m i : Nat) : dgt W x i * y / 18446744073709551616 + (dgt W x i * y % 18446744073709551616 + mca W x y m i + 0) / 18446744073709551616 = mca W x y m (i + 1) := by
  rw [Nat.add_zero, two_div (by omega), mca_succ W0, W_eq]
theorem wadd_nat {a b c : Nat} (h : a + b = c) (hc : c < 18446744073709551616) : IntKind.u64.wrap ((a : Int) + (b : Int)) = (c : Int) := by
  rw [IntKind.wrap_u64, ← Int.natCast_add, h, Int.emod_eq_of_lt (by omega) (by omega)]
set_option maxHeartbeats 1000000 in
theorem Put_c (A : Option Addr) (c x y m B : Nat) (w : World) (hy : y < 18446744073709551616) (hm : m < 18446744073709551616) (hL : nd W x ≤ 1000000000) (hr : Row w B A x (nd W x)) (hBs : B ≤ w.heap.size) :
    Calls Tryd.prog 54 #[.slice A (nd W x) c, .int .u64 (y : Nat), .int .u64 (m : Nat)] w (NumPost (x * y + m) w) := by
  obtain ⟨i0, hi0, hz0, hz1, hz2⟩ := info_parts (P := Tryd.prog) (e := 67) (z := .int .u64 0) (size := 1) (bytes := 8) (by kernel_rfl)
  have HR := Lib.hid hr
  have HA := Lib.hid (lt_nd (n := x) W2)
  clear hr
  go_enter Tryd.func54, Tryd.ntmps54
  go_wp2_with (at_make; go_loud (refine wpList_make_zero _ rfl (.tmp 15) (.tmp 15) _ rfl 67 i0 _ Tryd.underlying45 hi0 hz0 hz1 .i64 .i64 _ _ (nd W x + 1) rfl rfl (by omega) (by omega) (by rw [hz2]; omega) (by unfold maxLen; omega) ?_))
  rw [wcells_made]
  have HB0 := Lib.hid (Blk.new w 67 (wcells 0 (nd W x + 1)))
  have hbl : Below w.heap.size w (w.alloc (.cells (wcells 0 (nd W x + 1)) 67)) := (Below.refl _ _).alloc (Nat.le_refl _) _
  generalize w.alloc (.cells (wcells 0 (nd W x + 1)) 67) = w1 at *
  obtain ⟨g, hg⟩ : ∃ g, g = w.heap.size := ⟨_, rfl⟩
  rw [← hg] at HB0 hbl hBs ⊢
  have HG := Lib.hid hg
  clear hg
  go_loopw [2, 19] (fun cy i wr => ∃ k : Nat, k ≤ nd W x ∧ i = .int .i64 k ∧ cy = .int .u64 (mca W x y m k : Nat) ∧ Hid (Blk wr g 67 (wcells ((x * y + m) % W ^ k) (nd W x + 1))) ∧ Below g w wr) (fun _ i _ => nd W x - (intOf i).toNat)
  case atStart => exact ⟨0, Nat.zero_le _, rfl, by rw [mca_zero], by rw [mod_one]; exact HB0, hbl⟩
  case round =>
    obtain ⟨k, hk, rfl, rfl, hblk, hb⟩ := hrel
    have hy' : y < W := by rw [W_eq]; exact hy
    have hm' : m < W := by rw [W_eq]; exact hm
    by_cases hlt : k < nd W x
    · obtain ⟨ga, rfl, hga, hca⟩ := HR.out.at_ hlt
      have hca2 := (hb.cell (p := ⟨ga, k, none⟩) (by show ga < g; omega)).trans hca
      have hfz := hblk.out.frozen k
      have hck := hblk.out.cell k
      rw [wcells_get _ _ _ (by omega)] at hck
      have hc1 : mca W x y m (k + 1) < 18446744073709551616 := Nat.lt_of_lt_of_eq (mca_lt W0 x y m (k + 1) hy' hm') W_eq
      have hadd : ∀ w, (callFunc 69 #[.int .u64 (dgt W x k * y % 18446744073709551616 : Nat), .int .u64 (mca W x y m k : Nat), .int .u64 0]).run Tryd.prog w = .ok (.value (.tuple #[.int .u64 (dgt W (x * y + m) k : Nat), .int .u64 ((dgt W x k * y % 18446744073709551616 + mca W x y m k + 0) / 18446744073709551616 : Nat)])) w := fun w => by
        have h := Tryd.bits_Add64 (dgt W x k * y % 18446744073709551616) (mca W x y m k) 0 (by omega) w
        rw [mca_low] at h
        exact h
      have hcar : IntKind.u64.wrap (((dgt W x k * y / 18446744073709551616 : Nat) : Int) + (((dgt W x k * y % 18446744073709551616 + mca W x y m k + 0) / 18446744073709551616 : Nat) : Int)) = ((mca W x y m (k + 1) : Nat) : Int) := wadd_nat (mca_high x y m k) hc1
      have hmul := Tryd.bits_Mul64 (dgt W x k) y (wd_lt _ _) hy
      have HB1 := Lib.hid (hblk.out.set_ k (.int .u64 (dgt W (x * y + m) k : Nat)))
      rw [wcells_set _ _ _ _ (wd_lt _ _), put_sum] at HB1
      have hb1 := hb.setCell (p := ⟨g, k, none⟩) (Nat.le_refl _) (.int .u64 (dgt W (x * y + m) k : Nat))
      clear hca
      generalize dgt W x k * y / 18446744073709551616 = hi at *
      generalize (dgt W x k * y % 18446744073709551616 + mca W x y m k + 0) / 18446744073709551616 = c1 at *
      generalize dgt W x k * y % 18446744073709551616 = lo at *
      have HM := Lib.hid hmul
      clear hmul hc1 hy' hm'
      go_wp2_with (first | simp only [hadd] | (go_at_call 68; refine (HM.out _).mono ?_; rintro e w' ⟨rfl, rfl⟩))
      go_roundw
      case rel => exact ⟨k + 1, by omega, by go_num, rfl, HB1, hb1⟩
      case measure => simp [intOf]; omega
    · obtain rfl : k = nd W x := by omega
      have hfz := hblk.out.frozen (nd W x)
      have hck := hblk.out.cell (nd W x)
      rw [wcells_get _ _ _ (by omega)] at hck
      rw [mca_last W2 x y m _ HA.out hy' hm']
      have hs : x * y + m < W ^ (nd W x + 1) := by
        have h1 := HA.out
        rw [Nat.pow_succ]
        have h2 : (x + 1) * (y + 1) ≤ W ^ nd W x * W := Nat.mul_le_mul h1 hy'
        have h3 : x * (y + 1) ≤ x * W := Nat.mul_le_mul_left _ hy'
        have h4 : (x + 1) * W ≤ W ^ nd W x * W := Nat.mul_le_mul_right _ h1
        rw [Nat.add_mul] at h4
        have h5 : x * y ≤ x * W := Nat.mul_le_mul_left _ (by omega)
        omega
      have HB1 := hblk.out.set_ (nd W x) (.int .u64 (dgt W (x * y + m) (nd W x) : Nat))
      rw [wcells_set _ _ _ _ (wd_lt _ _), put_sum, Nat.mod_eq_of_lt hs] at HB1
      have HB1' := Lib.hid HB1
      have hb1 := hb.setCell (p := ⟨g, nd W x, none⟩) (Nat.le_refl _) (.int .u64 (dgt W (x * y + m) (nd W x) : Nat))
      have HS := Lib.hid hs
      clear HB1 hs hy' hm'
      go_wp2_with fail
      refine (Cut_c (some ⟨g, 0, none⟩) (nd W x + 1) (nd W x + 1) (x * y + m) (g + 1) _ HS.out (Nat.le_refl _) (by omega) (Row.of_blk HB1'.out (by omega))).mono ?_
      rintro e w' ⟨rfl, rfl⟩
      go_wp2
      go_ret
      have hnd := nd_le W2 HS.out
      exact NumPost.mk hnd ((Row.of_blk HB1'.out HB1'.out.lt).less hnd) (by rw [← HG.out]; exact hb1)
end Go.Proofs.YtajcapliokblfaaDoor
set_option linter.unusedSimpArgs false
set_option linter.unusedVariables false
namespace Go.Proofs.YtajcapliokblfaaDoor
open Go Go.RowKit Nt

@[irreducible] def b32 (x : Nat) : Bool := decide (4294967296 ≤ x)
theorem b32_true {x : Nat} (h : 4294967296 ≤ x) : b32 x = true := by unfold b32; exact decide_eq_true_iff.2 h
theorem b32_false {x : Nat} (h : ¬ 4294967296 ≤ x) : b32 x = false := by unfold b32; exact decide_eq_false_iff_not.2 h
@[local go_sem] theorem ge_b32 (x : Nat) : decide ((4294967296 : Int) ≤ (x : Int)) = b32 x := by
  unfold b32; rw [Bool.eq_iff_iff, decide_eq_true_iff, decide_eq_true_iff]; omega
theorem wrap_nat (z : Int) : ∃ n : Nat, IntKind.u64.wrap z = (n : Int) := by
  refine ⟨(IntKind.u64.wrap z).toNat, ?_⟩
  rw [IntKind.wrap_u64]; omega
theorem wrap_r (u c Q Y : Nat) (h : Q * Y ≤ u * 4294967296 + c) (h2 : u * 4294967296 + c - Q * Y < 18446744073709551616) :
    IntKind.u64.wrap (IntKind.u64.wrap (IntKind.u64.wrap ((u : Int) * 4294967296) + (c : Int)) - IntKind.u64.wrap ((Q : Int) * (Y : Int))) = ((u * 4294967296 + c - Q * Y : Nat) : Int) := by
  rw [← Int.natCast_mul]
  simp only [IntKind.wrap_u64]
  generalize Q * Y = p at *
  omega
theorem Div64_small (lo y : Nat) (w : World) (h0 : 0 < y) (hy : y < 18446744073709551616) (hlo : lo < 18446744073709551616) :
    Calls Tryd.prog 75 #[.int .u64 0, .int .u64 (lo : Nat), .int .u64 (y : Nat)] w fun e w' => e = .returned (.tuple #[.int .u64 (lo / y : Nat), .int .u64 (lo % y : Nat)]) ∧ ∃ n, w' = w.drewN n := by
  have hz := eqz_false (x := y) (by omega)
  have hle : ¬ ((y : Int) ≤ 0) := by omega
  have hq := Nat.div_le_self lo y
  have hr := Nat.mod_le lo y
  have e1 : ((lo / y : Nat) : Int) = (lo : Int) / (y : Int) := Int.natCast_ediv _ _
  have e2 : ((lo % y : Nat) : Int) = (lo : Int) % (y : Int) := Int.natCast_emod _ _
  have HQ := Lib.hid e1
  have HR := Lib.hid e2
  clear e1 e2
  go_enter Tryd.func75, Tryd.ntmps75
  go_wp2
  go_quiet (fail)
  go_wp2
  rw [← HR.out, ← HQ.out, IntKind.wrap_u64, Int.emod_eq_of_lt (Int.natCast_nonneg _) (by omega)]
  go_ret2
  exact ⟨rfl, nq, rfl⟩
set_option maxHeartbeats 2000000 in
theorem Div64_big (hi lo y s Y yh yl u V c d q p r : Nat) (w : World) (h0 : hi ≠ 0) (hhy : hi < y) (hy : y < 18446744073709551616) (hlo : lo < 18446744073709551616)
    (hs : Go.Lib.bitLen y + s = 64) (hs64 : s < 64) (hY : IntKind.u64.wrap ((y : Int) * 2 ^ s) = (Y : Int)) (hyh : (Y : Int) / 4294967296 = (yh : Int)) (hyl : bits .and .u64 (Y : Int) 4294967295 = (yl : Int))
    (hyh0 : ¬ yh = 0) (hu : bits .or .u64 (IntKind.u64.wrap ((hi : Int) * 2 ^ s)) ((lo : Int) / 2 ^ (64 - s)) = (u : Int))
    (hV : IntKind.u64.wrap ((lo : Int) * 2 ^ s) = (V : Int)) (hc : (V : Int) / 4294967296 = (c : Int)) (hd : bits .and .u64 (V : Int) 4294967295 = (d : Int))
    (hq : IntKind.u64.wrap ((u : Int) / (yh : Int)) = (q : Int)) (hp : IntKind.u64.wrap ((q : Int) * (yh : Int)) = (p : Int)) (hr : IntKind.u64.wrap ((u : Int) - (p : Int)) = (r : Int))
    (HG15 : Hid (Gss u c yh yl q r)) (HU15 : Hid (u < yh * 4294967296 + yl)) (HCc : Hid (c < 4294967296)) (HCd : Hid (d < 4294967296)) (HYH : Hid (yh < 4294967296)) (HYL : Hid (yl < 4294967296)) (HYP : Hid (0 < yh)) (HYB : Hid (2147483648 ≤ yh)) (HYS : Hid (Y = yh * 4294967296 + yl)) (HYM : Hid (Y < 18446744073709551616)) (HVS : Hid (V = c * 4294967296 + d)) (HYY : Hid (Y = y * 2 ^ s)) (HX : Hid (u * 18446744073709551616 + V = (hi * 18446744073709551616 + lo) * 2 ^ s)) :
    Calls Tryd.prog 75 #[.int .u64 (hi : Nat), .int .u64 (lo : Nat), .int .u64 (y : Nat)] w fun e w' => e = .returned (.tuple #[.int .u64 ((hi * 18446744073709551616 + lo) / y : Nat), .int .u64 ((hi * 18446744073709551616 + lo) % y : Nat)]) ∧ ∃ n, w' = w.drewN n := by
  have hz := eqz_false (x := y) (by omega)
  have hz2 := eqz_false (x := hi) (by omega)
  have hle : ¬ (y ≤ hi) := by omega
  have hlz : ∀ w, Calls Tryd.prog 86 #[.int .u64 (y : Nat)] w fun e w' => e = .returned (.int .i64 (s : Nat)) ∧ w = w' := fun w => by
    refine (Tryd.bits_LeadingZeros64 _ _ (by omega) (by omega)).mono ?_
    rintro e w' ⟨rfl, rfl⟩
    refine ⟨ret_int ?_, rfl⟩
    rw [Int.toNat_natCast]; omega
  have HLZ := Lib.hid hlz
  clear hlz
  have hs1 : IntKind.u64.wrap (s : Int) = (s : Int) := by rw [IntKind.wrap_u64]; omega
  have hs2 : IntKind.u64.wrap (64 - (s : Int)) = ((64 - s : Nat) : Int) := by rw [IntKind.wrap_u64]; omega
  go_enter Tryd.func75, Tryd.ntmps75
  go_upto_block 0 with (first | (go_at_call 86; refine (HLZ.out _).mono ?_; rintro e w' ⟨rfl, rfl⟩))
  go_cut [15, 16] (fun x _ wx => x = .int .u64 (((u * 4294967296 + c) / (yh * 4294967296 + yl) : Nat) : Int) ∧ wx = w)
  case first =>
    go_wp2_with fail
    go_loop [15, 16] (fun x z => ∃ q r : Nat, x = .int .u64 q ∧ z = .int .u64 r ∧ Hid (Gss u c yh yl q r)) (fun x _ => (intOf x).toNat)
    case atStart => exact ⟨_, _, rfl, rfl, HG15⟩
    case round =>
      obtain ⟨q, r, rfl, rfl, hg⟩ := hrel
      have hr : r < 4294967296 := hg.out.2.2.2
      obtain ⟨o, ho⟩ : ∃ o, o = 4294967296 * r := ⟨_, rfl⟩
      have ho1 : IntKind.u64.wrap (4294967296 * (r : Int)) = (o : Int) := by rw [IntKind.wrap_u64]; omega
      obtain ⟨t, ht⟩ : ∃ t, t = o + c := ⟨_, rfl⟩
      have ht1 : IntKind.u64.wrap ((o : Int) + (c : Int)) = (t : Int) := by rw [IntKind.wrap_u64]; have := HCc.out; omega
      obtain ⟨r', hr'⟩ : ∃ r', r' = r + yh := ⟨_, rfl⟩
      have hr1 : IntKind.u64.wrap ((r : Int) + (yh : Int)) = (r' : Int) := by rw [IntKind.wrap_u64]; have := HYH.out; omega
      have HO := Lib.hid ho
      have HT := Lib.hid ht
      have HR' := Lib.hid hr'
      have HRR := Lib.hid hr
      clear ho ht hr' hr
      by_cases hbig : 4294967296 ≤ q
      · have hbI := b32_true hbig
        have hn := gss_next hg.out HU15.out HCc.out HYH.out (Or.inl hbig)
        obtain ⟨q', hq'⟩ : ∃ q', q' = q - 1 := ⟨_, rfl⟩
        have hq1 : IntKind.u64.wrap ((q : Int) - 1) = (q' : Int) := by rw [IntKind.wrap_u64]; have := hn.2.2.2; omega
        rw [← hq'] at hn
        have hlt : q' < q := by omega
        have HQ' := Lib.hid hq'
        have HN := Lib.hid hn
        have HBIG := Lib.hid hbig
        clear hq' hn hbig
        by_cases hrb : 4294967296 ≤ r'
        · have hrB := b32_true hrb
          have HRB := Lib.hid hrb
          clear hrb
          go_wp2
          go_meet
          exact ⟨by rw [gss_end (q := q') (r := r') (u := u) (c := c) (by rw [HR'.out]; exact HN.out.2.1) HN.out.2.2.1 HYP.out (gss_far HN.out.2.2.2 HYL.out HRB.out)], rfl⟩
        · have hrB := b32_false hrb
          have HRB := Lib.hid hrb
          clear hrb
          go_wp2
          go_round
          case rel => exact ⟨q', r', rfl, rfl, Lib.hid ⟨by rw [HR'.out]; exact HN.out.2.1, HN.out.2.2.1, by have := HN.out.2.2.2; omega, by have := HRB.out; omega⟩⟩
          case measure => simp [intOf]; omega
      · have hbI := b32_false hbig
        have HQS := Lib.hid (show q < 4294967296 by omega)
        clear hbig
        obtain ⟨p, hp⟩ : ∃ p, p = q * yl := ⟨_, rfl⟩
        have hp1 : IntKind.u64.wrap ((q : Int) * (yl : Int)) = (p : Int) := by
          rw [← Int.natCast_mul, ← hp, IntKind.wrap_u64]
          have h1 : q * yl ≤ 4294967295 * 4294967295 := Nat.mul_le_mul (by have := HQS.out; omega) (by have := HYL.out; omega)
          omega
        have HP := Lib.hid hp
        clear hp
        by_cases hpt : t < p
        · have hn := gss_next hg.out HU15.out HCc.out HYH.out (Or.inr (by have := HO.out; have := HT.out; have := HP.out; omega))
          obtain ⟨q', hq'⟩ : ∃ q', q' = q - 1 := ⟨_, rfl⟩
          have hq1 : IntKind.u64.wrap ((q : Int) - 1) = (q' : Int) := by rw [IntKind.wrap_u64]; have := hn.1; omega
          rw [← hq'] at hn
          have hlt : q' < q := by have := hn.1; omega
          have HQ' := Lib.hid hq'
          have HN := Lib.hid hn
          clear hq' hn
          by_cases hrb : 4294967296 ≤ r'
          · have hrB := b32_true hrb
            have HRB := Lib.hid hrb
            clear hrb
            go_wp2
            go_meet
            exact ⟨by rw [gss_end (q := q') (r := r') (u := u) (c := c) (by rw [HR'.out]; exact HN.out.2.1) HN.out.2.2.1 HYP.out (gss_far HN.out.2.2.2 HYL.out HRB.out)], rfl⟩
          · have hrB := b32_false hrb
            have HRB := Lib.hid hrb
            clear hrb
            go_wp2
            go_round
            case rel => exact ⟨q', r', rfl, rfl, Lib.hid ⟨by rw [HR'.out]; exact HN.out.2.1, HN.out.2.2.1, by have := HN.out.2.2.2; omega, by have := HRB.out; omega⟩⟩
            case measure => simp [intOf]; omega
        · go_wp2
          go_meet
          exact ⟨by rw [gss_end (q := q) (r := r) (u := u) (c := c) hg.out.1 hg.out.2.1 HYP.out (by have := HO.out; have := HT.out; have := HP.out; omega)], rfl⟩
  case rest =>
    obtain ⟨rfl, rfl⟩ := hcut
    obtain ⟨Q, hQ⟩ : ∃ Q, Q = (u * 4294967296 + c) / (yh * 4294967296 + yl) := ⟨_, rfl⟩
    rw [← hQ]
    have hYS := HYS.out
    have hQY : Q * Y ≤ u * 4294967296 + c := by rw [hQ, hYS]; exact Nat.div_mul_le_self _ _
    have hRY : u * 4294967296 + c - Q * Y < Y := by
      have h1 := Nat.div_add_mod (u * 4294967296 + c) Y
      have h2 := Nat.mod_lt (u * 4294967296 + c) (show 0 < Y by have := HYP.out; omega)
      rw [← hYS] at hQ
      rw [← hQ, Nat.mul_comm] at h1; omega
    obtain ⟨R, hR⟩ : ∃ R, R = u * 4294967296 + c - Q * Y := ⟨_, rfl⟩
    obtain ⟨a1, ha1⟩ := wrap_nat ((u : Int) * 4294967296)
    obtain ⟨a2, ha2⟩ := wrap_nat ((a1 : Int) + (c : Int))
    obtain ⟨a3, ha3⟩ := wrap_nat ((Q : Int) * (Y : Int))
    have ha4 : IntKind.u64.wrap ((a2 : Int) - (a3 : Int)) = (R : Int) := by
      rw [hR, ← ha2, ← ha3, ← ha1]; exact wrap_r u c Q Y hQY (by have := HYM.out; omega)
    obtain ⟨q2, hq2⟩ := wrap_nat ((R : Int) / (yh : Int))
    obtain ⟨p2, hp2⟩ := wrap_nat ((q2 : Int) * (yh : Int))
    obtain ⟨r2, hr2⟩ := wrap_nat ((R : Int) - (p2 : Int))
    have HU18 := Lib.hid (show R < yh * 4294967296 + yl by rw [hR, ← hYS]; exact hRY)
    have HG18 : Hid (Gss R d yh yl q2 r2) := by
      have h := gss_start HU18.out HCd.out HYL.out HYB.out HYH.out
      have e1 : q2 = R / yh := by
        have h1 := Nat.div_le_self R yh
        rw [IntKind.wrap_u64, ← Int.natCast_ediv] at hq2
        generalize R / yh = z at *
        have := HYM.out; omega
      have e2 : p2 = R / yh * yh := by
        have h1 := Nat.div_mul_le_self R yh
        rw [IntKind.wrap_u64, ← Int.natCast_mul, e1] at hp2
        generalize R / yh * yh = z at *
        have := HYM.out; omega
      have e3 : r2 = R - R / yh * yh := by
        have h1 := Nat.div_mul_le_self R yh
        rw [IntKind.wrap_u64, e2] at hr2
        generalize R / yh * yh = z at *
        have := HYM.out; omega
      rw [e1, e3]; exact Lib.hid h
    obtain ⟨Q2, hQ2⟩ : ∃ Q2, Q2 = (R * 4294967296 + d) / (yh * 4294967296 + yl) := ⟨_, rfl⟩
    have hQY2 : Q2 * Y ≤ R * 4294967296 + d := by rw [hQ2, hYS]; exact Nat.div_mul_le_self _ _
    have hQ2Y : Q2 = (R * 4294967296 + d) / Y := by rw [hQ2, hYS]
    have hmodR : R * 4294967296 + d - Q2 * Y = (R * 4294967296 + d) % Y := by
      have h1 := Nat.div_add_mod (R * 4294967296 + d) Y
      rw [← hQ2Y, Nat.mul_comm] at h1; omega
    obtain ⟨b1, hb1⟩ := wrap_nat ((Q : Int) * 4294967296)
    obtain ⟨b2, hb2⟩ := wrap_nat ((b1 : Int) + (Q2 : Int))
    obtain ⟨b3, hb3⟩ := wrap_nat ((R : Int) * 4294967296)
    obtain ⟨b4, hb4⟩ := wrap_nat ((b3 : Int) + (d : Int))
    obtain ⟨b5, hb5⟩ := wrap_nat ((Q2 : Int) * (Y : Int))
    have hY0 : 0 < Y := by have := HYP.out; omega
    have hR2Y : (R * 4294967296 + d) % Y < Y := Nat.mod_lt _ hY0
    obtain ⟨b6, hb6⟩ : ∃ b6, b6 = (R * 4294967296 + d) % Y := ⟨_, rfl⟩
    have hb6' : IntKind.u64.wrap ((b4 : Int) - (b5 : Int)) = (b6 : Int) := by
      rw [hb6, ← hmodR, ← hb4, ← hb5, ← hb3]; exact wrap_r R d Q2 Y hQY2 (by rw [hmodR]; exact Nat.lt_trans hR2Y HYM.out)
    obtain ⟨b7, hb7⟩ : ∃ b7, b7 = b6 / 2 ^ s := ⟨_, rfl⟩
    have hb7' : (b6 : Int) / 2 ^ s = (b7 : Int) := by rw [hb7, Int.natCast_ediv, Int.natCast_pow]; rfl
    have hFin : b2 = (hi * 18446744073709551616 + lo) / y ∧ b7 = (hi * 18446744073709551616 + lo) % y := by
      have h2 := two_steps u c d Y hY0 HCd.out
      have hRm : (u * 4294967296 + c) % Y = R := by
        have h1 := Nat.div_add_mod (u * 4294967296 + c) Y
        rw [← hYS] at hQ
        rw [← hQ, Nat.mul_comm] at h1; omega
      have hQY' : (u * 4294967296 + c) / Y = Q := by rw [hYS]; exact hQ.symm
      rw [hRm, hQY', ← hQ2Y, ← HVS.out, HX.out, HYY.out] at h2
      have h3 := scale_div (hi * 18446744073709551616 + lo) y (2 ^ s) (Nat.two_pow_pos s)
      rw [h3.1] at h2
      have hlt : (hi * 18446744073709551616 + lo) / y < 18446744073709551616 := by
        rw [Nat.div_lt_iff_lt_mul (by omega)]; omega
      constructor
      · rw [IntKind.wrap_u64] at hb1 hb2
        have := h2.1
        omega
      · rw [hb7, hb6, HYY.out, ← h3.2, ← h2.2]
    have HFIN := Lib.hid hFin
    have HQ2 := Lib.hid hQ2
    clear hQ hQY hRY hR hYS hQ2 hQY2 hQ2Y hmodR hY0 hR2Y hb6 hb7 hFin
    go_upto_block 2 with fail
    go_cut [18, 16] (fun x _ wx => x = .int .u64 (((R * 4294967296 + d) / (yh * 4294967296 + yl) : Nat) : Int) ∧ wx = wc)
    case first =>
      go_wp2_with fail
      go_loop [18, 16] (fun x z => ∃ q r : Nat, x = .int .u64 q ∧ z = .int .u64 r ∧ Hid (Gss R d yh yl q r)) (fun x _ => (intOf x).toNat)
      case atStart => exact ⟨_, _, rfl, rfl, HG18⟩
      case round =>
        obtain ⟨q, r, rfl, rfl, hg⟩ := hrel
        have hr : r < 4294967296 := hg.out.2.2.2
        obtain ⟨o, ho⟩ : ∃ o, o = 4294967296 * r := ⟨_, rfl⟩
        have ho1 : IntKind.u64.wrap (4294967296 * (r : Int)) = (o : Int) := by rw [IntKind.wrap_u64]; omega
        obtain ⟨t, ht⟩ : ∃ t, t = o + d := ⟨_, rfl⟩
        have ht1 : IntKind.u64.wrap ((o : Int) + (d : Int)) = (t : Int) := by rw [IntKind.wrap_u64]; have := HCd.out; omega
        obtain ⟨r', hr'⟩ : ∃ r', r' = r + yh := ⟨_, rfl⟩
        have hr1 : IntKind.u64.wrap ((r : Int) + (yh : Int)) = (r' : Int) := by rw [IntKind.wrap_u64]; have := HYH.out; omega
        have HO := Lib.hid ho
        have HT := Lib.hid ht
        have HR' := Lib.hid hr'
        have HRR := Lib.hid hr
        clear ho ht hr' hr
        by_cases hbig : 4294967296 ≤ q
        · have hbI := b32_true hbig
          have hn := gss_next hg.out HU18.out HCd.out HYH.out (Or.inl hbig)
          obtain ⟨q', hq'⟩ : ∃ q', q' = q - 1 := ⟨_, rfl⟩
          have hq1 : IntKind.u64.wrap ((q : Int) - 1) = (q' : Int) := by rw [IntKind.wrap_u64]; have := hn.2.2.2; omega
          rw [← hq'] at hn
          have hlt : q' < q := by omega
          have HQ' := Lib.hid hq'
          have HN := Lib.hid hn
          have HBIG := Lib.hid hbig
          clear hq' hn hbig
          by_cases hrb : 4294967296 ≤ r'
          · have hrB := b32_true hrb
            have HRB := Lib.hid hrb
            clear hrb
            go_wp2
            go_meet
            exact ⟨by rw [gss_end (q := q') (r := r') (u := R) (c := d) (by rw [HR'.out]; exact HN.out.2.1) HN.out.2.2.1 HYP.out (gss_far HN.out.2.2.2 HYL.out HRB.out)], rfl⟩
          · have hrB := b32_false hrb
            have HRB := Lib.hid hrb
            clear hrb
            go_wp2
            go_round
            case rel => exact ⟨q', r', rfl, rfl, Lib.hid ⟨by rw [HR'.out]; exact HN.out.2.1, HN.out.2.2.1, by have := HN.out.2.2.2; omega, by have := HRB.out; omega⟩⟩
            case measure => simp [intOf]; omega
        · have hbI := b32_false hbig
          have HQS := Lib.hid (show q < 4294967296 by omega)
          clear hbig
          obtain ⟨p, hp⟩ : ∃ p, p = q * yl := ⟨_, rfl⟩
          have hp1 : IntKind.u64.wrap ((q : Int) * (yl : Int)) = (p : Int) := by
            rw [← Int.natCast_mul, ← hp, IntKind.wrap_u64]
            have h1 : q * yl ≤ 4294967295 * 4294967295 := Nat.mul_le_mul (by have := HQS.out; omega) (by have := HYL.out; omega)
            omega
          have HP := Lib.hid hp
          clear hp
          by_cases hpt : t < p
          · have hn := gss_next hg.out HU18.out HCd.out HYH.out (Or.inr (by have := HO.out; have := HT.out; have := HP.out; omega))
            obtain ⟨q', hq'⟩ : ∃ q', q' = q - 1 := ⟨_, rfl⟩
            have hq1 : IntKind.u64.wrap ((q : Int) - 1) = (q' : Int) := by rw [IntKind.wrap_u64]; have := hn.1; omega
            rw [← hq'] at hn
            have hlt : q' < q := by have := hn.1; omega
            have HQ' := Lib.hid hq'
            have HN := Lib.hid hn
            clear hq' hn
            by_cases hrb : 4294967296 ≤ r'
            · have hrB := b32_true hrb
              have HRB := Lib.hid hrb
              clear hrb
              go_wp2
              go_meet
              exact ⟨by rw [gss_end (q := q') (r := r') (u := R) (c := d) (by rw [HR'.out]; exact HN.out.2.1) HN.out.2.2.1 HYP.out (gss_far HN.out.2.2.2 HYL.out HRB.out)], rfl⟩
            · have hrB := b32_false hrb
              have HRB := Lib.hid hrb
              clear hrb
              go_wp2
              go_round
              case rel => exact ⟨q', r', rfl, rfl, Lib.hid ⟨by rw [HR'.out]; exact HN.out.2.1, HN.out.2.2.1, by have := HN.out.2.2.2; omega, by have := HRB.out; omega⟩⟩
              case measure => simp [intOf]; omega
          · go_wp2
            go_meet
            exact ⟨by rw [gss_end (q := q) (r := r) (u := R) (c := d) hg.out.1 hg.out.2.1 HYP.out (by have := HO.out; have := HT.out; have := HP.out; omega)], rfl⟩
    case rest =>
      obtain ⟨rfl, rfl⟩ := hcut
      rw [← HQ2.out]
      go_wp2
      go_ret2
      obtain ⟨e1, e2⟩ := HFIN.out
      exact ⟨by rw [e1, e2]; rfl, 0, rfl⟩
theorem Div64_c (hi lo y : Nat) (w : World) (hhy : hi < y) (hy : y < 18446744073709551616) (hlo : lo < 18446744073709551616) :
    Calls Tryd.prog 75 #[.int .u64 (hi : Nat), .int .u64 (lo : Nat), .int .u64 (y : Nat)] w fun e w' => e = .returned (.tuple #[.int .u64 ((hi * 18446744073709551616 + lo) / y : Nat), .int .u64 ((hi * 18446744073709551616 + lo) % y : Nat)]) ∧ ∃ n, w' = w.drewN n := by
  by_cases h0 : hi = 0
  · subst h0
    have h := Div64_small lo y w (by omega) hy hlo
    rw [Nat.zero_mul, Nat.zero_add]
    exact h
  · have hbl := bitLen_nd hy
    have hn := nd_le (b := 2) (n := y) (k := 64) (by omega) hy
    obtain ⟨s, hs⟩ : ∃ s, s = 64 - nd 2 y := ⟨_, rfl⟩
    have hy0 : y ≠ 0 := by omega
    have hnd0 : nd 2 y ≠ 0 := fun c => hy0 ((nd_eq_zero (by omega)).1 c)
    have h1 := lt_nd (b := 2) (n := y) (by omega)
    have h2 := (pow_le_iff (b := 2) (by omega) (nd 2 y - 1) y).2 (by omega)
    obtain ⟨Y, hY⟩ : ∃ Y, Y = y * 2 ^ s := ⟨_, rfl⟩
    have e64 : (2 : Nat) ^ nd 2 y * 2 ^ s = 18446744073709551616 := by rw [← Nat.pow_add, show nd 2 y + s = 64 by omega]
    have e63 : (2 : Nat) ^ (nd 2 y - 1) * 2 ^ s = 9223372036854775808 := by rw [← Nat.pow_add, show nd 2 y - 1 + s = 63 by omega]
    have hYM : Y < 18446744073709551616 := by rw [hY, ← e64]; exact (Nat.mul_lt_mul_right (Nat.two_pow_pos s)).2 h1
    have hYB : 9223372036854775808 ≤ Y := by rw [hY, ← e63]; exact Nat.mul_le_mul_right _ h2
    have hhi : hi * 2 ^ s < 18446744073709551616 := by
      refine Nat.lt_trans ?_ hYM; rw [hY]; exact (Nat.mul_lt_mul_right (Nat.two_pow_pos s)).2 hhy
    obtain ⟨p1, p2, p3⟩ := shl_two hi lo s (by omega) hlo hhi
    obtain ⟨u, hu⟩ : ∃ u, u = hi * 2 ^ s + lo / 2 ^ (64 - s) := ⟨_, rfl⟩
    obtain ⟨V, hV⟩ : ∃ V, V = lo * 2 ^ s % 18446744073709551616 := ⟨_, rfl⟩
    rw [← hu, ← hV] at p3
    rw [← hu] at p1 p2
    have hVM : V < 18446744073709551616 := by rw [hV]; exact Nat.mod_lt _ (by omega)
    have huY : u < Y := by
      have h3 : (hi * 18446744073709551616 + lo) * 2 ^ s < Y * 18446744073709551616 := by
        rw [hY, Nat.mul_right_comm]; exact (Nat.mul_lt_mul_right (Nat.two_pow_pos s)).2 (by omega)
      omega
    obtain ⟨yh, hyh⟩ : ∃ yh, yh = Y / 4294967296 := ⟨_, rfl⟩
    obtain ⟨yl, hyl⟩ : ∃ yl, yl = Y % 4294967296 := ⟨_, rfl⟩
    obtain ⟨c, hc⟩ : ∃ c, c = V / 4294967296 := ⟨_, rfl⟩
    obtain ⟨d, hd⟩ : ∃ d, d = V % 4294967296 := ⟨_, rfl⟩
    have hg := gss_start (u := u) (c := c) (yh := yh) (yl := yl) (by omega) (by omega) (by omega) (by omega) (by omega)
    have hqh : u / yh ≤ u := Nat.div_le_self _ _
    have hqp : u / yh * yh ≤ u := Nat.div_mul_le_self _ _
    have mask : ∀ x : Nat, x < 18446744073709551616 → bits .and .u64 (x : Int) 4294967295 = ((x % 4294967296 : Nat) : Int) := fun x hx => by
      have h := bits_and_u64_nat x 4294967295 hx (by omega)
      have e : x &&& 4294967295 = x % 4294967296 := Nat.and_two_pow_sub_one_eq_mod x 32
      rw [e] at h; exact h
    have pw : ∀ k : Nat, (2 : Int) ^ k = ((2 ^ k : Nat) : Int) := fun k => by rw [Int.natCast_pow]; rfl
    refine Div64_big hi lo y s Y yh yl u V c d (u / yh) (u / yh * yh) (u - u / yh * yh) w h0 hhy hy hlo (by omega) (by omega) ?_ (by omega) (by rw [mask Y hYM, hyl]) (by omega) ?_ ?_ (by omega) (by rw [mask V hVM, hd]) ?_ ?_ ?_
      (Lib.hid hg) (Lib.hid (by omega)) (Lib.hid (by omega)) (Lib.hid (by omega)) (Lib.hid (by omega)) (Lib.hid (by omega)) (Lib.hid (by omega)) (Lib.hid (by omega)) (Lib.hid (by omega)) (Lib.hid hYM) (Lib.hid (by omega)) (Lib.hid hY) (Lib.hid p3)
    · rw [pw, ← Int.natCast_mul, ← hY, IntKind.wrap_u64]; omega
    · rw [pw, pw, ← Int.natCast_mul, ← Int.natCast_ediv, IntKind.wrap_u64, Int.emod_eq_of_lt (by omega) (by omega), bits_or_u64_nat _ _ hhi (Nat.lt_of_le_of_lt (Nat.div_le_self _ _) hlo), p1]
    · rw [pw, ← Int.natCast_mul, IntKind.wrap_u64, hV]; omega
    · rw [← Int.natCast_ediv, IntKind.wrap_u64]; generalize u / yh = z at *; omega
    · rw [← Int.natCast_mul, IntKind.wrap_u64]; generalize u / yh * yh = z at *; omega
    · rw [IntKind.wrap_u64]; generalize u / yh * yh = z at *; omega
end Go.Proofs.YtajcapliokblfaaDoor
set_option linter.unusedSimpArgs false
set_option linter.unusedVariables false
namespace Go.Proofs.YtajcapliokblfaaDoor
open Go Go.RowKit Nt

theorem below_drewN {B : Nat} {a w : World} (h : Below B a w) (n : Nat) : Below B a (w.drewN n) := ⟨h.os, h.tape, h.output, h.size, h.block⟩
@[irreducible] def rst (x y k : Nat) : Nat := x / W ^ k % y
theorem rst_def (x y k : Nat) : rst x y k = x / W ^ k % y := by unfold rst; rfl
/-- The quotient, from the digit k on. -/
def hiV (q k : Nat) : Nat := W ^ k * (q / W ^ k)
theorem hiV_put (q m : Nat) : put W (hiV q (m + 1)) m (dgt W q m) = hiV q m := by
  unfold hiV
  have h0 : dgt W (W ^ (m + 1) * (q / W ^ (m + 1))) m = 0 := by
    have := dgt_add_mul (b := W) W0 0 (q / W ^ (m + 1)) (i := m) (L := m + 1) (by omega)
    rw [Nat.zero_add] at this
    rw [this, dgt_def]; simp
  rw [put_new _ _ _ W0 h0, div_eq_dgt W0 q m, Nat.mul_add, Nat.pow_succ, Nat.mul_assoc, Nat.add_comm]
theorem hiV_zero (q : Nat) : hiV q 0 = q := by unfold hiV; rw [Nat.pow_zero, Nat.one_mul, Nat.div_one]
theorem hiV_top {q L : Nat} (h : q < W ^ L) : hiV q L = 0 := by unfold hiV; rw [Nat.div_eq_of_lt h, Nat.mul_zero]
theorem Of_c (n : Nat) (w : World) (hn : n < 18446744073709551616) :
    Calls Tryd.prog 74 #[.int .u64 (n : Nat)] w (NumPost n w) := by
  have hs : n < W ^ 1 := by rw [Nat.pow_one, W_eq]; exact hn
  have hcell : (#[.int .u64 (n : Nat)] : Array Value) = wcells n 1 := by
    unfold wcells dl
    have e : dgt W n 0 = n := by rw [dgt_def, Nat.pow_zero, Nat.div_one, Nat.mod_eq_of_lt (by rw [W_eq]; exact hn)]
    simp [List.range_succ, e]
  have HS := Lib.hid hs
  have HC := Lib.hid hcell
  clear hs hcell
  go_enter Tryd.func74, Tryd.ntmps74
  go_wp2_with fail
  have HB0 := Lib.hid (Blk.new w 67 (wcells n 1))
  have hbl : Below w.heap.size w (w.alloc (.cells (wcells n 1) 67)) := (Below.refl _ _).alloc (Nat.le_refl _) _
  rw [HC.out]
  generalize w.alloc (.cells (wcells n 1) 67) = w1 at *
  obtain ⟨g, hg⟩ : ∃ g, g = w.heap.size := ⟨_, rfl⟩
  rw [← hg] at HB0 hbl ⊢
  have HG := Lib.hid hg
  clear hg
  refine (Cut_c (some ⟨g, 0, none⟩) 1 1 n (g + 1) _ HS.out (Nat.le_refl _) (by omega) (Row.of_blk HB0.out (by omega))).mono ?_
  rintro e w' ⟨rfl, rfl⟩
  go_wp2
  go_ret
  have hnd := nd_le W2 HS.out
  exact NumPost.mk hnd ((Row.of_blk HB0.out HB0.out.lt).less hnd) (by rw [← HG.out]; exact hbl)
set_option maxHeartbeats 1000000 in
theorem Take_c (A : Option Addr) (c x y B : Nat) (w : World) (hy0 : y ≠ 0) (hy : y < 18446744073709551616) (hL : nd W x ≤ 1000000000) (hr : Row w B A x (nd W x)) (hBs : B ≤ w.heap.size) :
    Calls Tryd.prog 50 #[.slice A (nd W x) c, .int .u64 (y : Nat)] w fun e w' => ∃ A' c', e = .returned (.tuple #[.slice A' (nd W (x / y)) c', .int .u64 (x % y : Nat)]) ∧ A' = some ⟨w.heap.size, 0, none⟩ ∧ w.heap.size < w'.heap.size ∧ nd W (x / y) ≤ c' ∧ Row w' w'.heap.size A' (x / y) (nd W (x / y)) ∧ Below w.heap.size w w' := by
  obtain ⟨i0, hi0, hz0, hz1, hz2⟩ := info_parts (P := Tryd.prog) (e := 67) (z := .int .u64 0) (size := 1) (bytes := 8) (by kernel_rfl)
  have HR := Lib.hid hr
  have HA := Lib.hid (lt_nd (n := x) W2)
  have HQ := Lib.hid (Nat.lt_of_le_of_lt (Nat.div_le_self x y) (lt_nd (n := x) W2))
  have hw : wrap64 ((nd W x : Int) - 1) = (nd W x : Int) - 1 := IntWalk.wrap64_in _ (by omega)
  clear hr
  go_enter Tryd.func50, Tryd.ntmps50
  go_wp2_with (at_make; go_loud (refine wpList_make_zero _ rfl (.tmp 10) (.tmp 10) _ rfl 67 i0 _ Tryd.underlying45 hi0 hz0 hz1 .i64 .i64 _ _ (nd W x) rfl rfl rfl rfl (by rw [hz2]; omega) (by unfold maxLen; omega) ?_))
  rw [wcells_made]
  have HB0 := Lib.hid (Blk.new w 67 (wcells 0 (nd W x)))
  have hbl : Below w.heap.size w (w.alloc (.cells (wcells 0 (nd W x)) 67)) := (Below.refl _ _).alloc (Nat.le_refl _) _
  generalize w.alloc (.cells (wcells 0 (nd W x)) 67) = w1 at *
  obtain ⟨g, hg⟩ : ∃ g, g = w.heap.size := ⟨_, rfl⟩
  rw [← hg] at HB0 hbl hBs ⊢
  have HG := Lib.hid hg
  clear hg
  go_loopw [7, 8] (fun ρ i wr => ∃ (k : Nat) (z : Int), k ≤ nd W x ∧ i = .int .i64 z ∧ Hid (z = (k : Int) - 1) ∧ ρ = .int .u64 (rst x y k : Nat) ∧ Hid (Blk wr g 67 (wcells (hiV (x / y) k) (nd W x))) ∧ Below g w wr) (fun _ i _ => (intOf i + 1).toNat)
  case atStart => exact ⟨nd W x, _, Nat.le_refl _, rfl, Lib.hid rfl, by rw [rst_def, Nat.div_eq_of_lt HA.out, Nat.zero_mod]; rfl, by rw [hiV_top HQ.out]; exact HB0, hbl⟩
  case round =>
    obtain ⟨k, z, hk, rfl, hz, rfl, hblk, hb⟩ := hrel
    by_cases h0 : k = 0
    · subst h0
      obtain rfl : z = -1 := by have := hz.out; omega
      have HB1 := hblk.out
      rw [hiV_zero] at HB1
      have HB1' := Lib.hid HB1
      clear HB1
      go_wp2_with fail
      refine (Cut_c (some ⟨g, 0, none⟩) (nd W x) (nd W x) (x / y) (g + 1) _ HQ.out (Nat.le_refl _) (by omega) (Row.of_blk HB1'.out (by omega))).mono ?_
      rintro e w' ⟨rfl, rfl⟩
      go_wp2
      go_ret2
      have hnd := nd_le W2 HQ.out
      refine ⟨_, _, ?_, by rw [← HG.out], by rw [← HG.out]; exact HB1'.out.lt, hnd, (Row.of_blk HB1'.out HB1'.out.lt).less hnd, by rw [← HG.out]; exact hb⟩
      have e : rst x y 0 = x % y := by rw [rst_def, Nat.pow_zero, Nat.div_one]
      rw [← e]; rfl
    · obtain ⟨m, rfl⟩ : ∃ m, k = m + 1 := ⟨k - 1, by omega⟩
      obtain rfl : z = (m : Int) := by have := hz.out; omega
      obtain ⟨ga, rfl, hga, hca⟩ := HR.out.at_ (k := m) (by omega)
      have hca2 := (hb.cell (p := ⟨ga, m, none⟩) (by show ga < g; omega)).trans hca
      have hmL : m < nd W x := by omega
      have hw' : wrap64 ((m : Int) - 1) = (m : Int) - 1 := IntWalk.wrap64_in _ (by omega)
      have hdiv : ∀ w, Calls Tryd.prog 75 #[.int .u64 (rst x y (m + 1) : Nat), .int .u64 (dgt W x m : Nat), .int .u64 (y : Nat)] w fun e w' => e = .returned (.tuple #[.int .u64 (dgt W (x / y) m : Nat), .int .u64 (rst x y m : Nat)]) ∧ ∃ n, w' = w.drewN n := fun w => by
        refine (Div64_c _ _ _ _ (by rw [rst_def]; exact Nat.mod_lt _ (by omega)) hy (wd_lt _ _)).mono ?_
        rintro e w' ⟨rfl, h⟩
        refine ⟨?_, h⟩
        rw [rst_def, rst_def, ← take_quo W0 x y m (by omega), ← take_rest W0 x y m, W_eq]
      have HD := Lib.hid hdiv
      clear hdiv hca
      go_wp2_with (go_at_call 75; refine (HD.out _).mono ?_; rintro e w' ⟨rfl, nn, rfl⟩; have hfz := (hblk.out.drewN nn).frozen m; have hck := (hblk.out.drewN nn).cell m; rw [wcells_get _ _ _ hmL] at hck)
      have HB1 := Lib.hid ((hblk.out.drewN nn).set_ m (.int .u64 (dgt W (x / y) m : Nat)))
      rw [wcells_set _ _ _ _ (wd_lt _ _), hiV_put] at HB1
      have hb1 := (below_drewN hb nn).setCell (p := ⟨g, m, none⟩) (Nat.le_refl _) (.int .u64 (dgt W (x / y) m : Nat))
      go_roundw
      case rel => exact ⟨m, _, by omega, rfl, Lib.hid rfl, rfl, HB1, hb1⟩
      case measure => simp [intOf]
end Go.Proofs.YtajcapliokblfaaDoor
set_option linter.unusedSimpArgs false
set_option linter.unusedVariables false
namespace Go.Proofs.YtajcapliokblfaaDoor
open Go Go.RowKit Nt

/-- The number, when k words of it are shifted. -/
@[irreducible] def shlV (x q r k : Nat) : Nat := x % W ^ k * 2 ^ r * W ^ q
theorem shlV_def (x q r k : Nat) : shlV x q r k = x % W ^ k * 2 ^ r * W ^ q := by unfold shlV; rfl
theorem shlV_zero (x q r : Nat) : shlV x q r 0 = 0 := by rw [shlV_def, mod_one, Nat.zero_mul, Nat.zero_mul]
theorem shl_last {x q r k : Nat} (hx : x < W ^ nd W x) (hk : k = 64 * q + r) : shlV x q r (nd W x) = x * 2 ^ k := by
  rw [shlV_def, Nat.mod_eq_of_lt hx, hk, Nat.pow_add, W_two, ← Nat.pow_mul, Nat.mul_assoc, Nat.mul_comm (2 ^ r)]
theorem int_pow2 (k : Nat) : (2 : Int) ^ k = ((2 ^ k : Nat) : Int) := by rw [Int.natCast_pow]; rfl
/-- The two words of a step. -/
theorem shl_words (x q r k : Nat) (hr : r < 64) : ∃ v V1 u : Nat,
    bits .or .u64 ((dgt W (shlV x q r k) (k + q) : Nat) : Int) (IntKind.u64.wrap ((dgt W x k : Nat) * 2 ^ r)) = (v : Int) ∧ v < 18446744073709551616 ∧
    put W (shlV x q r k) (k + q) v = V1 ∧ dgt W V1 (k + q + 1) = 0 ∧
    bits .or .u64 (0 : Int) (((dgt W x k : Nat) : Int) / 2 ^ (64 - r)) = (u : Int) ∧ u < 18446744073709551616 ∧ put W V1 (k + q + 1) u = shlV x q r (k + 1) := by
  obtain ⟨h1, h2, h3, h4, h5⟩ := shl_step (e := 64) x k q r (by omega)
  rw [← W_two] at h1 h2 h3 h4 h5
  rw [shlV_def, shlV_def]
  refine ⟨_, _, dgt W x k / 2 ^ (64 - r), ?_, Nat.lt_of_lt_of_eq h2 W_eq, rfl, h3, ?_, Nat.lt_of_lt_of_eq h4 W_eq, h5⟩
  · have e : IntKind.u64.wrap ((dgt W x k : Nat) * 2 ^ r) = ((dgt W x k * 2 ^ r % W : Nat) : Int) := by
      rw [IntKind.wrap_u64, int_pow2, ← Int.natCast_mul, W_eq, Int.natCast_emod]; rfl
    rw [e, bits_or_u64_nat _ _ (wd_lt _ _) (Nat.lt_of_lt_of_eq (Nat.mod_lt _ W0) W_eq), h1]
  · rw [int_pow2, ← Int.natCast_ediv]
    have := bits_or_u64_nat 0 (dgt W x k / 2 ^ (64 - r)) (by omega) (Nat.lt_of_lt_of_eq h4 W_eq)
    rw [Nat.zero_or] at this; exact this
theorem Shl_none (A : Option Addr) (c : Nat) (k : Int) (w : World) :
    Calls Tryd.prog 83 #[.slice A 0 c, .int .i64 k] w (NumPost 0 w) := by
  go_enter Tryd.func83, Tryd.ntmps83
  go_wp2
  go_ret
  have e : nd W 0 = 0 := nd_zero _
  have := NumPost.mk (n := 0) (w := w) (w' := w) (A := none) (c := 0) (by rw [e]; exact Nat.le_refl _) (by rw [e]; exact Row.none_) (Below.refl _ _)
  rw [e] at this; exact this
set_option maxHeartbeats 1000000 in
theorem Shl_some (A : Option Addr) (c x k q r B : Nat) (w : World) (hx0 : x ≠ 0) (hk : k = 64 * q + r) (hr64 : r < 64) (hL : nd W x + q ≤ 1000000000) (hr : Row w B A x (nd W x)) (hBs : B ≤ w.heap.size) :
    Calls Tryd.prog 83 #[.slice A (nd W x) c, .int .i64 (k : Nat)] w (NumPost (x * 2 ^ k) w) := by
  obtain ⟨i0, hi0, hz0, hz1, hz2⟩ := info_parts (P := Tryd.prog) (e := 67) (z := .int .u64 0) (size := 1) (bytes := 8) (by kernel_rfl)
  have HR := Lib.hid hr
  have HA := Lib.hid (lt_nd (n := x) W2)
  have hq : (k : Int) / 64 = (q : Int) := by omega
  have hm : (k : Int) % 64 = (r : Int) := by omega
  have hkb : (k : Int) ≤ 1000000000000 := by omega
  have hn0 : nd W x ≠ 0 := fun e => hx0 ((nd_eq_zero W2).1 e)
  have hz := eqz_false hn0
  have HK := Lib.hid hk
  clear hr hk
  go_enter Tryd.func83, Tryd.ntmps83
  go_wp2_with (at_make; go_loud (refine wpList_make_zero _ rfl (.tmp 21) (.tmp 21) _ rfl 67 i0 _ Tryd.underlying45 hi0 hz0 hz1 .i64 .i64 _ _ (nd W x + q + 1) rfl rfl (by omega) (by omega) (by rw [hz2]; omega) (by unfold maxLen; omega) ?_))
  rw [wcells_made]
  have HB0 := Lib.hid (Blk.new w 67 (wcells 0 (nd W x + q + 1)))
  have hbl : Below w.heap.size w (w.alloc (.cells (wcells 0 (nd W x + q + 1)) 67)) := (Below.refl _ _).alloc (Nat.le_refl _) _
  generalize w.alloc (.cells (wcells 0 (nd W x + q + 1)) 67) = w1 at *
  obtain ⟨g, hg⟩ : ∃ g, g = w.heap.size := ⟨_, rfl⟩
  rw [← hg] at HB0 hbl hBs ⊢
  have HG := Lib.hid hg
  clear hg
  go_loopw [25] (fun i wr => ∃ k : Nat, k ≤ nd W x ∧ i = .int .i64 k ∧ Hid (Blk wr g 67 (wcells (shlV x q r k) (nd W x + q + 1))) ∧ Below g w wr) (fun i _ => nd W x - (intOf i).toNat)
  case atStart => exact ⟨0, Nat.zero_le _, rfl, by rw [shlV_zero]; exact HB0, hbl⟩
  case round =>
    obtain ⟨k, hk, rfl, hblk, hb⟩ := hrel
    by_cases hlt : k < nd W x
    · obtain ⟨ga, rfl, hga, hca⟩ := HR.out.at_ hlt
      have hca2 := (hb.cell (p := ⟨ga, k, none⟩) (by show ga < g; omega)).trans hca
      have hfz := hblk.out.frozen (k + q)
      have hck := hblk.out.cell (k + q)
      rw [wcells_get _ _ _ (by omega)] at hck
      obtain ⟨v, V1, u, e1, hv, e2, e3, e4, hu, e5⟩ := shl_words x q r k hr64
      have HB1 := hblk.out.set_ (k + q) (.int .u64 (v : Nat))
      rw [wcells_set _ _ _ _ hv, e2] at HB1
      have hb1 := hb.setCell (p := ⟨g, k + q, none⟩) (Nat.le_refl _) (.int .u64 (v : Nat))
      have hfz1 := HB1.frozen (k + q + 1)
      have hck1 := HB1.cell (k + q + 1)
      rw [wcells_get _ _ _ (by omega), e3] at hck1
      have hck1' : (wr.setCell ⟨g, k + q, none⟩ (.int .u64 (v : Nat))).cell? ⟨g, k + q + 1, none⟩ = some (.int .u64 0) := hck1
      have HB2 := Lib.hid ((HB1.drew.set_ (k + q + 1) (.int .u64 (u : Nat))).drew)
      rw [wcells_set _ _ _ _ hu, e5] at HB2
      have hb2 := (hb1.drew.setCell (p := ⟨g, k + q + 1, none⟩) (Nat.le_refl _) (.int .u64 (u : Nat))).drew
      have h64 : (64 : Int) - (r : Int) = ((64 - r : Nat) : Int) := by omega
      clear hca hck1 HB1 hb1 hv e2 e3 hu e5
      go_wp2
      go_region
      generalize wr.setCell ⟨g, k + q, none⟩ (.int .u64 (v : Nat)) = w2 at *
      go_wp2
      go_region
      go_wp2
      go_roundw
      case rel => exact ⟨k + 1, by omega, by go_num, HB2, hb2⟩
      case measure => simp [intOf]; omega
    · obtain rfl : k = nd W x := by omega
      have HB1 := hblk.out
      rw [shl_last HA.out HK.out] at HB1
      have HB1' := Lib.hid HB1
      have hs : x * 2 ^ (64 * q + r) < W ^ (nd W x + q + 1) := by
        have h1 := HA.out
        rw [Nat.add_assoc (nd W x), Nat.pow_add W]
        have h2 : (2 : Nat) ^ (64 * q + r) ≤ W ^ (q + 1) := by rw [W_two, ← Nat.pow_mul]; exact Nat.pow_le_pow_right (by omega) (by omega)
        refine Nat.lt_of_lt_of_le ((Nat.mul_lt_mul_right (Nat.two_pow_pos _)).2 h1) (Nat.mul_le_mul_left _ h2)
      rw [← HK.out] at hs
      have HS := Lib.hid hs
      clear HB1 hs
      go_wp2_with fail
      refine (Cut_c (some ⟨g, 0, none⟩) (nd W x + q + 1) (nd W x + q + 1) _ (g + 1) _ HS.out (Nat.le_refl _) (by omega) (Row.of_blk HB1'.out (by omega))).mono ?_
      rintro e w' ⟨rfl, rfl⟩
      go_wp2
      go_ret
      have hnd := nd_le W2 HS.out
      exact NumPost.mk hnd ((Row.of_blk HB1'.out HB1'.out.lt).less hnd) (by rw [← HG.out]; exact hb)
theorem Shl_c (A : Option Addr) (c x k B : Nat) (w : World) (hL : nd W x + k / 64 ≤ 1000000000) (hr : Row w B A x (nd W x)) (hBs : B ≤ w.heap.size) :
    Calls Tryd.prog 83 #[.slice A (nd W x) c, .int .i64 (k : Nat)] w (NumPost (x * 2 ^ k) w) := by
  by_cases h : x = 0
  · subst h
    have e : nd W 0 = 0 := nd_zero _
    rw [e, Nat.zero_mul]
    exact Shl_none A c _ w
  · exact Shl_some A c x k (k / 64) (k % 64) B w h (by omega) (by omega) hL hr hBs
/-- The words of a number that is shifted to the right. -/
theorem shr_words (x q r k : Nat) (hr : r < 64) : ∃ v u : Nat,
    ((dgt W x (k + q) : Nat) : Int) / 2 ^ r = (v : Int) ∧ v < 18446744073709551616 ∧
    bits .or .u64 (v : Int) (IntKind.u64.wrap (((dgt W x (k + q + 1) : Nat) : Int) * 2 ^ (64 - r))) = (u : Int) ∧ u = dgt W (x / 2 ^ (64 * q + r)) k ∧
    (dgt W x (k + q + 1) = 0 → v = dgt W (x / 2 ^ (64 * q + r)) k) := by
  have h := dgt_shr (e := 64) (x / W ^ q) r k (by omega)
  rw [← W_two] at h
  rw [dgt_skip, dgt_skip, show k + 1 + q = k + q + 1 by omega] at h
  have e : x / W ^ q / 2 ^ r = x / 2 ^ (64 * q + r) := by rw [W_two, ← Nat.pow_mul, Nat.div_div_eq_div_mul, ← Nat.pow_add]
  rw [e] at h
  have hv : dgt W x (k + q) / 2 ^ r < 2 ^ (64 - r) := by
    rw [Nat.div_lt_iff_lt_mul (Nat.two_pow_pos r), ← Nat.pow_add, show 64 - r + r = 64 by omega, ← W_two]; exact dgt_lt W0 _ _
  have hv64 : dgt W x (k + q) / 2 ^ r < 18446744073709551616 := Nat.lt_of_le_of_lt (Nat.div_le_self _ _) (wd_lt _ _)
  have hlow : dgt W x (k + q + 1) * 2 ^ (64 - r) % W = 2 ^ (64 - r) * (dgt W x (k + q + 1) % 2 ^ r) := by
    have hW : W = 2 ^ (64 - r) * 2 ^ r := by rw [W_two, ← Nat.pow_add]; congr 1; omega
    generalize dgt W x (k + q + 1) = D
    rw [hW, Nat.mul_comm, Nat.mul_mod_mul_left]
  refine ⟨dgt W x (k + q) / 2 ^ r, dgt W (x / 2 ^ (64 * q + r)) k, ?_, hv64, ?_, rfl, ?_⟩
  · rw [int_pow2, ← Int.natCast_ediv]
  · have e2 : IntKind.u64.wrap (((dgt W x (k + q + 1) : Nat) : Int) * 2 ^ (64 - r)) = ((dgt W x (k + q + 1) * 2 ^ (64 - r) % W : Nat) : Int) := by
      rw [IntKind.wrap_u64, int_pow2, ← Int.natCast_mul, W_eq, Int.natCast_emod]; rfl
    rw [e2, bits_or_u64_nat _ _ hv64 (Nat.lt_of_lt_of_eq (Nat.mod_lt _ W0) W_eq), h, hlow, or_add _ _ _ hv]
  · intro hz; rw [h, hz, Nat.zero_mul, Nat.zero_mod, Nat.add_zero]
theorem Shr_far (A : Option Addr) (c x k L : Nat) (w : World) (h : L ≤ k / 64) (hk : k ≤ 1000000000000) :
    Calls Tryd.prog 90 #[.slice A L c, .int .i64 (k : Nat)] w fun e w' => e = .returned (.slice none 0 0) ∧ w = w' := by
  obtain ⟨q, hq⟩ : ∃ q : Nat, (k : Int) / 64 = (q : Int) := ⟨k / 64, by omega⟩
  have h1 : L ≤ q := by omega
  go_enter Tryd.func90, Tryd.ntmps90
  go_wp2
  go_ret
  exact ⟨rfl, rfl⟩
set_option maxHeartbeats 1000000 in
theorem Shr_near (A : Option Addr) (c x k q r B : Nat) (w : World) (hk : k = 64 * q + r) (hr64 : r < 64) (hq' : q < nd W x) (hL : nd W x ≤ 1000000000) (hr : Row w B A x (nd W x)) (hBs : B ≤ w.heap.size) :
    Calls Tryd.prog 90 #[.slice A (nd W x) c, .int .i64 (k : Nat)] w (NumPost (x / 2 ^ k) w) := by
  obtain ⟨i0, hi0, hz0, hz1, hz2⟩ := info_parts (P := Tryd.prog) (e := 67) (z := .int .u64 0) (size := 1) (bytes := 8) (by kernel_rfl)
  obtain ⟨L, hLe⟩ : ∃ L, nd W x = q + L := ⟨nd W x - q, by omega⟩
  have HR := Lib.hid hr
  have HA := lt_nd (n := x) W2
  have hs : x / 2 ^ (64 * q + r) < W ^ L := by
    rw [Nat.pow_add, ← Nat.div_div_eq_div_mul, Nat.pow_mul, ← W_two]
    refine Nat.lt_of_le_of_lt (Nat.div_le_self _ _) ?_
    rw [Nat.div_lt_iff_lt_mul (Nat.pow_pos W0), ← Nat.pow_add, Nat.add_comm L, ← hLe]; exact HA
  have HS := Lib.hid hs
  have HND := Lib.hid (fun (h : nd W x ≤ q + L) => h)
  have hq : (k : Int) / 64 = (q : Int) := by omega
  have hm : (k : Int) % 64 = (r : Int) := by omega
  have hkb : (k : Int) ≤ 1000000000000 := by omega
  have HZ : Hid (∀ j, q + L ≤ j → dgt W x j = 0) := Lib.hid (fun j hj => dgt_big W2 (by omega))
  have HK := Lib.hid hk
  obtain ⟨M, hM⟩ : ∃ M, M = nd W x := ⟨_, rfl⟩
  rw [← hM] at HR hL ⊢
  have hql : ¬ M ≤ q := by omega
  have hqb : (q : Int) ≤ 1000000000 := by omega
  have hsub : (M : Int) - (q : Int) = (L : Int) := by omega
  have HML : Hid (M = q + L) := Lib.hid (by omega)
  have hL2 : L ≤ M := by omega

  clear hr hk hs HA hLe hq' hM HND
  go_enter Tryd.func90, Tryd.ntmps90
  go_wp2_with (at_make; go_loud (refine wpList_make_zero _ rfl (.tmp 20) (.tmp 20) _ rfl 67 i0 _ Tryd.underlying45 hi0 hz0 hz1 .i64 .i64 _ _ L rfl rfl rfl rfl (by rw [hz2]; omega) (by unfold maxLen; omega) ?_))
  rw [wcells_made]
  have HB0 := Lib.hid (Blk.new w 67 (wcells 0 L))
  have hbl : Below w.heap.size w (w.alloc (.cells (wcells 0 L) 67)) := (Below.refl _ _).alloc (Nat.le_refl _) _
  generalize w.alloc (.cells (wcells 0 L) 67) = w1 at *
  obtain ⟨g, hg⟩ : ∃ g, g = w.heap.size := ⟨_, rfl⟩
  rw [← hg] at HB0 hbl hBs ⊢
  have HG := Lib.hid hg
  clear hg
  go_loopw [24] (fun i wr => ∃ k : Nat, k ≤ L ∧ i = .int .i64 k ∧ Hid (Blk wr g 67 (wcells (x / 2 ^ (64 * q + r) % W ^ k) L)) ∧ Below g w wr) (fun i _ => L - (intOf i).toNat)
  case atStart => exact ⟨0, Nat.zero_le _, rfl, by rw [mod_one]; exact HB0, hbl⟩
  case round =>
    obtain ⟨k, hk, rfl, hblk, hb⟩ := hrel
    by_cases hlt : k < L
    · have hMq : k + q < M := by have := HML.out; omega
      obtain ⟨ga, rfl, hga, hca⟩ := HR.out.at_ hMq
      have hca2 := (hb.cell (p := ⟨ga, k + q, none⟩) (by show ga < g; omega)).trans hca
      have hfz := hblk.out.frozen k
      have hck := hblk.out.cell k
      rw [wcells_get _ _ _ (by omega)] at hck
      obtain ⟨v, u, e1, hv, e2, e3, e4⟩ := shr_words x q r k hr64
      have hv' := Lib.hid hv
      have HE3 := Lib.hid e3
      have HE4 := Lib.hid e4
      have hhb := hblk.out
      have h64 : (64 : Int) - (r : Int) = ((64 - r : Nat) : Int) := by omega
      have hLi : (M : Int) ≤ 1000000000 := by omega
      have hkq : (k : Int) + (q : Int) + 1 ≤ 1000000000 := by omega
      have hkq2 : k + q + 1 ≤ 1000000000 := by omega
      have HLh := Lib.hid hL
      clear hca e3 e4 hv hL
      by_cases hlt2 : k + q + 1 < M
      · obtain ⟨gb, egb, hgb, hcb⟩ := HR.out.at_ hlt2
        obtain rfl : ga = gb := congrArg Addr.block (Option.some.inj egb)
        have hb1 := hb.setCell (p := ⟨g, k, none⟩) (Nat.le_refl _) (.int .u64 (v : Nat))
        have hcb2 := (hb1.cell (p := ⟨ga, k + q + 1, none⟩) (by show ga < g; omega)).trans hcb
        have HB1 := hhb.set_ k (.int .u64 (v : Nat))
        have hfz1 := HB1.frozen k
        have hck1 : (wr.setCell ⟨g, k, none⟩ (.int .u64 (v : Nat))).cell? ⟨g, k, none⟩ = some (.int .u64 (v : Nat)) := by
          rw [HB1.cell, wcells_set _ _ _ _ hv'.out, wcells_get _ _ _ hlt, dgt_put W2 _ _ _ _ (by rw [W_eq]; exact hv'.out), if_pos rfl]
        have HB2 := Lib.hid ((HB1.set_ k (.int .u64 (u : Nat))).drew)
        rw [Array.setIfInBounds_setIfInBounds, wcells_set _ _ _ _ (by rw [HE3.out]; exact wd_lt _ _), HE3.out, put_sum] at HB2
        have hb2 := (hb1.setCell (p := ⟨g, k, none⟩) (Nat.le_refl _) (.int .u64 (u : Nat))).drew
        rw [← HE3.out] at HB2
        have hT : decide ((k : Int) + (q : Int) + 1 < (M : Int)) = true := decide_eq_true (by omega)
        have HLT := Lib.hid hlt
        clear hcb HB1 hb1 hhb
        go_upto_if 44 with fail
        have HA1 := Lib.hid hlt2
        have HA3 := Lib.hid hkq2
        clear hlt2 hkq2 hlt
        go_wp2
        have hlt := HLT.out
        have hlt2 := HA1.out
        go_region
        go_wp2
        go_roundw
        case rel => exact ⟨k + 1, by omega, by go_num, by rw [HE3.out] at *; exact HB2, hb2⟩
        case measure => simp [intOf]; omega
      · have hz0' : v = dgt W (x / 2 ^ (64 * q + r)) k := HE4.out (HZ.out _ (by have := HML.out; omega))
        have HZ' := Lib.hid hz0'
        have HB1 := Lib.hid (hhb.set_ k (.int .u64 (v : Nat)))
        rw [wcells_set _ _ _ _ hv'.out, hz0', put_sum] at HB1
        have hb1 := hb.setCell (p := ⟨g, k, none⟩) (Nat.le_refl _) (.int .u64 (v : Nat))
        have hT : decide ((k : Int) + (q : Int) + 1 < (M : Int)) = false := decide_eq_false (by omega)
        clear hz0' hhb
        go_upto_if 44 with fail
        have HA3 := Lib.hid hkq2
        have HA1 := Lib.hid hlt2
        clear hlt2 hkq2
        go_wp2
        go_roundw
        case rel => exact ⟨k + 1, by omega, by go_num, by rw [HZ'.out]; exact HB1, hb1⟩
        case measure => simp [intOf]; omega
    · obtain rfl : k = L := by omega
      have HB1 := hblk.out
      rw [Nat.mod_eq_of_lt HS.out, ← HK.out] at HB1
      have HB1' := Lib.hid HB1
      have HS2 := HS
      rw [← HK.out] at HS2
      clear HB1
      go_wp2_with fail
      refine (Cut_c (some ⟨g, 0, none⟩) k k _ (g + 1) _ HS2.out (Nat.le_refl _) (by omega) (Row.of_blk HB1'.out (by omega))).mono ?_
      rintro e w' ⟨rfl, rfl⟩
      go_wp2
      go_ret
      have hnd := nd_le W2 HS2.out
      exact NumPost.mk hnd ((Row.of_blk HB1'.out HB1'.out.lt).less hnd) (by rw [← HG.out]; exact hb)
theorem Shr_c (A : Option Addr) (c x k B : Nat) (w : World) (hk : k ≤ 1000000000000) (hL : nd W x ≤ 1000000000) (hr : Row w B A x (nd W x)) (hBs : B ≤ w.heap.size) :
    Calls Tryd.prog 90 #[.slice A (nd W x) c, .int .i64 (k : Nat)] w (NumPost (x / 2 ^ k) w) := by
  by_cases h : k / 64 < nd W x
  · exact Shr_near A c x k (k / 64) (k % 64) B w (by omega) (by omega) h hL hr hBs
  · have h0 : x / 2 ^ k = 0 := by
      apply Nat.div_eq_of_lt
      refine Nat.lt_of_lt_of_le (lt_nd (n := x) W2) ?_
      generalize nd W x = m at *
      rw [W_two, ← Nat.pow_mul]; exact Nat.pow_le_pow_right (by omega) (by omega)
    refine (Shr_far A c x k (nd W x) w (by omega) hk).mono ?_
    rintro e w' ⟨rfl, rfl⟩
    rw [h0]
    have e : nd W 0 = 0 := nd_zero _
    have := NumPost.mk (n := 0) (w := w) (w' := w) (A := none) (c := 0) (by rw [e]; exact Nat.le_refl _) (by rw [e]; exact Row.none_) (Below.refl _ _)
    rw [e] at this; exact this
end Go.Proofs.YtajcapliokblfaaDoor
set_option linter.unusedSimpArgs false
set_option linter.unusedVariables false
namespace Go.Proofs.YtajcapliokblfaaDoor
open Go Go.RowKit Nt

/-- One step of a row: the product's words, two sums, the word and what is carried. -/
theorem row_words (D v t c : Nat) (hD : D < 18446744073709551616) (hv : v < 18446744073709551616) (ht : t < 18446744073709551616) (hc : c < 18446744073709551616) : ∃ hi lo lo2 c1 hi2 nw c2 cy : Nat,
    (∀ w, Calls Tryd.prog 68 #[.int .u64 (D : Nat), .int .u64 (v : Nat)] w fun e w' => e = .returned (.tuple #[.int .u64 (hi : Nat), .int .u64 (lo : Nat)]) ∧ w = w') ∧
    (∀ w, (callFunc 69 #[.int .u64 (lo : Nat), .int .u64 (t : Nat), .int .u64 0]).run Tryd.prog w = .ok (.value (.tuple #[.int .u64 (lo2 : Nat), .int .u64 (c1 : Nat)])) w) ∧
    IntKind.u64.wrap ((hi : Int) + (c1 : Int)) = (hi2 : Int) ∧
    (∀ w, (callFunc 69 #[.int .u64 (lo2 : Nat), .int .u64 (c : Nat), .int .u64 0]).run Tryd.prog w = .ok (.value (.tuple #[.int .u64 (nw : Nat), .int .u64 (c2 : Nat)])) w) ∧
    IntKind.u64.wrap ((hi2 : Int) + (c2 : Int)) = (cy : Int) ∧
    nw < 18446744073709551616 ∧ cy < 18446744073709551616 ∧ nw + W * cy = D * v + t + c := by
  have hp := prod_lt hD hv
  have h1 := Tryd.bits_Add64 (D * v % 18446744073709551616) t 0 (by omega)
  have h2 := Tryd.bits_Add64 ((D * v % 18446744073709551616 + t + 0) % 18446744073709551616) c 0 (by omega)
  refine ⟨D * v / 18446744073709551616, D * v % 18446744073709551616, (D * v % 18446744073709551616 + t + 0) % 18446744073709551616, (D * v % 18446744073709551616 + t + 0) / 18446744073709551616,
    D * v / 18446744073709551616 + (D * v % 18446744073709551616 + t + 0) / 18446744073709551616, ((D * v % 18446744073709551616 + t + 0) % 18446744073709551616 + c + 0) % 18446744073709551616, ((D * v % 18446744073709551616 + t + 0) % 18446744073709551616 + c + 0) / 18446744073709551616,
    D * v / 18446744073709551616 + (D * v % 18446744073709551616 + t + 0) / 18446744073709551616 + ((D * v % 18446744073709551616 + t + 0) % 18446744073709551616 + c + 0) / 18446744073709551616, ?_, h1, ?_, h2, ?_, ?_, ?_, ?_⟩
  · intro w
    refine (Tryd.bits_Mul64 D v hD hv w).mono ?_
    rintro e w' ⟨rfl, rfl⟩; exact ⟨rfl, rfl⟩
  · refine wadd_nat rfl ?_
    generalize D * v = p at *; omega
  · refine wadd_nat rfl ?_
    generalize D * v = p at *; omega
  · exact Nat.mod_lt _ (by omega)
  · generalize D * v = p at *; omega
  · rw [W_eq]; generalize D * v = p at *; omega
/-- A row, when j words of it stand. -/
def RowOk (V D b k j Z c : Nat) : Prop := Z + W ^ (k + j) * c = V + W ^ k * (D * (b % W ^ j)) ∧ Z < W ^ (k + nd W b) ∧ c < 18446744073709551616
theorem rowok_start {V b k D : Nat} (hV : V < W ^ (k + nd W b)) : RowOk V D b k 0 V 0 := by
  unfold RowOk
  refine ⟨?_, hV, by omega⟩
  rw [Nat.pow_zero, Nat.mod_one, Nat.mul_zero, Nat.mul_zero, Nat.mul_zero]
theorem rowok_step {V D b k j Z c nw cy : Nat} (h : RowOk V D b k j Z c) (hj : j < nd W b) (hn : nw < 18446744073709551616) (hc : cy < 18446744073709551616)
    (he : nw + W * cy = D * dgt W b j + dgt W Z (k + j) + c) : RowOk V D b k (j + 1) (put W Z (k + j) nw) cy := by
  obtain ⟨h1, h2, _⟩ := h
  refine ⟨?_, put_lt W2 (by rw [W_eq]; exact hn) h2 (by omega), hc⟩
  have hp := put_eq Z (k + j) nw W0
  rw [mod_succ, Nat.mul_add D, Nat.mul_add (W ^ k), ← Nat.add_assoc V, ← h1]
  rw [show k + (j + 1) = k + j + 1 by omega, Nat.pow_succ, Nat.mul_assoc]
  have e1 : W ^ k * (D * (W ^ j * dgt W b j)) = W ^ (k + j) * (D * dgt W b j) := by
    rw [Nat.pow_add, Nat.mul_left_comm D, Nat.mul_assoc]
  rw [e1]
  have e2 : W ^ (k + j) * nw + W ^ (k + j) * (W * cy) = W ^ (k + j) * (D * dgt W b j) + W ^ (k + j) * dgt W Z (k + j) + W ^ (k + j) * c := by
    rw [← Nat.mul_add, he, Nat.mul_add, Nat.mul_add]
  omega
theorem rowok_end {a b k Z c : Nat} (h : RowOk (a % W ^ k * b) (dgt W a k) b k (nd W b) Z c) : dgt W Z (k + nd W b) = 0 ∧ put W Z (k + nd W b) c = a % W ^ (k + 1) * b := by
  obtain ⟨h1, h2, _⟩ := h
  have hz := dgt_of_lt W2 h2 (Nat.le_refl _)
  refine ⟨hz, ?_⟩
  rw [put_new _ _ _ W0 hz, h1, Nat.mod_eq_of_lt (lt_nd W2), mod_succ, Nat.add_mul, Nat.mul_assoc]
theorem row_lt {a b k : Nat} : a % W ^ k * b < W ^ (k + nd W b) := by
  rw [Nat.pow_add]
  have h1 := mod_lt_pow W0 a k
  have h2 := lt_nd (n := b) W2
  rcases Nat.eq_zero_or_pos b with h | h
  · subst h; rw [Nat.mul_zero]; exact Nat.mul_pos (Nat.pow_pos W0) (Nat.pow_pos W0)
  · exact Nat.lt_of_lt_of_le ((Nat.mul_lt_mul_right h).2 h1) (Nat.mul_le_mul_left _ (by omega))
/-- A row cut out of words. -/
theorem row_slice (g k n lb : Nat) (h : k + lb ≤ n) : ∃ A : Option Addr, (lb ≠ 0 → A = some ⟨g, k, none⟩) ∧ ∀ w, (Instr.sliceAt 45 (.slice (some ⟨g, 0, none⟩) n n) (some (.int .i64 k)) (some (.int .i64 ((k : Int) + (lb : Int)))) (some (.int .i64 ((k : Int) + (lb : Int))))).run Tryd.prog w = .ok (.slice A lb lb) w := by
  refine ⟨if k + lb = k then some ⟨g, 0, none⟩ else some ⟨g, k, none⟩, fun h0 => by rw [if_neg (by omega)], fun w => ?_⟩
  have e : (((k : Int) + (lb : Int))).toNat = k + lb := by omega
  have ht : Tryd.prog.underlying 45 = some (.slice (Tryd.prog.elem 45)) := by kernel_rfl
  rw [run_sliceAt_slice (h := ht), run_slice_lhm w 45 _ _ _ ht .i64 .i64 .i64 _ _ _ (by omega) (by omega) (by omega) (by omega), e]
  have he : Tryd.prog.elem 45 = 67 := by kernel_rfl
  rw [he, Tryd.sizeOf67 w]
  simp only [Result.andThen, sliced, Int.toNat_natCast]
  rw [show k + lb - k = lb by omega]
  by_cases h1 : k + lb = k
  · rw [if_pos h1, if_pos h1]
  · rw [if_neg h1, if_neg h1, Nat.mul_one]
    simp only [Option.map]
    rw [add_plain0]
set_option maxRecDepth 100000 in
set_option maxHeartbeats 2000000 in
theorem Mul_c (A A' : Option Addr) (c c' a b B : Nat) (w : World) (hL : nd W a + nd W b ≤ 1000000000) (hr : Row w B A a (nd W a)) (hr' : Row w B A' b (nd W b)) (hBs : B ≤ w.heap.size) :
    Calls Tryd.prog 42 #[.slice A (nd W a) c, .slice A' (nd W b) c'] w (NumPost (a * b) w) := by
  obtain ⟨i0, hi0, hz0, hz1, hz2⟩ := info_parts (P := Tryd.prog) (e := 67) (z := .int .u64 0) (size := 1) (bytes := 8) (by kernel_rfl)
  have HR := Lib.hid hr
  have HR' := Lib.hid hr'
  have HA := Lib.hid (lt_nd (n := a) W2)
  obtain ⟨la, hla⟩ : ∃ la, la = nd W a := ⟨_, rfl⟩
  obtain ⟨lb, hlb⟩ : ∃ lb, lb = nd W b := ⟨_, rfl⟩
  rw [← hla] at HA
  rw [← hla, ← hlb] at hL ⊢
  rw [← hla] at HR
  rw [← hlb] at HR'
  have HLA := Lib.hid hla
  have HLB := Lib.hid hlb
  have hLi : (la : Int) + (lb : Int) ≤ 1000000000 := by omega
  have hlai : (la : Int) ≤ 1000000000 := by omega
  have hlbi : (lb : Int) ≤ 1000000000 := by omega
  clear hr hr' hla hlb
  go_enter Tryd.func42, Tryd.ntmps42
  go_wp2_with (at_make; go_loud (refine wpList_make_zero _ rfl (.tmp 19) (.tmp 19) _ rfl 67 i0 _ Tryd.underlying45 hi0 hz0 hz1 .i64 .i64 _ _ (la + lb) rfl rfl (by omega) (by omega) (by rw [hz2]; omega) (by unfold maxLen; omega) ?_))
  rw [wcells_made]
  have HB0 := Lib.hid (Blk.new w 67 (wcells 0 (la + lb)))
  have hbl : Below w.heap.size w (w.alloc (.cells (wcells 0 (la + lb)) 67)) := (Below.refl _ _).alloc (Nat.le_refl _) _
  generalize w.alloc (.cells (wcells 0 (la + lb)) 67) = w1 at *
  obtain ⟨g, hg⟩ : ∃ g, g = w.heap.size := ⟨_, rfl⟩
  rw [← hg] at HB0 hbl hBs ⊢
  have HG := Lib.hid hg
  clear hg
  go_loopw [23] (fun i wr => ∃ k : Nat, k ≤ la ∧ i = .int .i64 k ∧ Hid (Blk wr g 67 (wcells (a % W ^ k * b) (la + lb))) ∧ Below g w wr) (fun i _ => la - (intOf i).toNat)
  case atStart => exact ⟨0, Nat.zero_le _, rfl, by rw [mod_one, Nat.zero_mul]; exact HB0, hbl⟩
  case round =>
    obtain ⟨k, hk, rfl, hblk, hb⟩ := hrel
    obtain ⟨wo, rfl⟩ : ∃ wo : World, wo = wr := ⟨_, rfl⟩
    by_cases hlt : k < la
    · obtain ⟨ga, rfl, hga, hca⟩ := HR.out.at_ hlt
      have hca2 := (hb.cell (p := ⟨ga, k, none⟩) (by show ga < g; omega)).trans hca
      clear hca
      have hkl : (k : Int) + (lb : Int) ≤ 1000000000 := by omega
      by_cases hz : dgt W a k = 0
      · have hz' := eqz_true hz
        have HB1 := hblk
        rw [show a % W ^ k * b = a % W ^ (k + 1) * b by rw [mod_succ, hz, Nat.mul_zero, Nat.add_zero]] at HB1
        clear hz
        go_wp2
        go_roundw
        case rel => exact ⟨k + 1, by omega, by go_num, HB1, hb⟩
        case measure => simp [intOf]; omega
      · have hz' := eqz_false hz
        have HZ := Lib.hid hz
        have hkk : k + lb ≤ la + lb := by omega
        have HKK := Lib.hid hkk
        obtain ⟨Ar, hAr, hsl⟩ := row_slice g k (la + lb) lb hkk
        have HAr := Lib.hid hAr
        clear hz hkk hAr
        go_wp2
        have hinit := Lib.hid (rowok_start (D := dgt W a k) (row_lt (a := a) (b := b) (k := k)))
        go_loopw [8, 43] (fun cy i wr => ∃ j Z cc : Nat, j ≤ lb ∧ i = .int .i64 j ∧ cy = .int .u64 cc ∧ Hid (RowOk (a % W ^ k * b) (dgt W a k) b k j Z cc) ∧ Hid (Blk wr g 67 (wcells Z (la + lb))) ∧ Below g w wr) (fun _ i _ => lb - (intOf i).toNat)
        case atStart => exact ⟨0, _, 0, Nat.zero_le _, rfl, rfl, hinit, hblk, hb⟩
        case round =>
          obtain ⟨j, Z, cc, hj, rfl, rfl, hok, hblk2, hb2⟩ := hrel
          by_cases hltj : j < lb
          · obtain rfl : Ar = some ⟨g, k, none⟩ := HAr.out (by omega)
            obtain ⟨gb, rfl, hgb, hcb⟩ := HR'.out.at_ hltj
            have hcb2 := (hb2.cell (p := ⟨gb, j, none⟩) (by show gb < g; omega)).trans hcb
            have hfz := hblk2.out.frozen (k + j)
            have hck := hblk2.out.cell (k + j)
            rw [wcells_get _ _ _ (by have := HKK.out; omega)] at hck
            obtain ⟨hi, lo, lo2, c1, hi2, nw, c2, cy, hmul, ha1, hw1, ha2, hw2, hnw, hcy, heq⟩ := row_words (dgt W a k) (dgt W b j) (dgt W Z (k + j)) cc (wd_lt _ _) (wd_lt _ _) (wd_lt _ _) hok.out.2.2
            have HOK := Lib.hid (rowok_step hok.out (by rw [← HLB.out]; exact hltj) hnw hcy heq)
            have HB1 := Lib.hid (hblk2.out.set_ (k + j) (.int .u64 (nw : Nat)))
            rw [wcells_set _ _ _ _ hnw] at HB1
            have hb1 := hb2.setCell (p := ⟨g, k + j, none⟩) (Nat.le_refl _) (.int .u64 (nw : Nat))
            have HM := Lib.hid hmul
            clear hmul hcb heq hnw hcy
            go_wp2_with (first | simp only [ha1] | simp only [ha2] | (go_at_call 68; refine (HM.out _).mono ?_; rintro e w' ⟨rfl, rfl⟩))
            go_roundw
            case rel => exact ⟨j + 1, _, cy, by omega, by go_num, rfl, HOK, HB1, hb1⟩
            case measure => simp [intOf]; omega
          · obtain rfl : j = lb := by omega
            have hr2 := hok.out
            have e1 := rowok_end (a := a) (b := b) (k := k) (Z := Z) (c := cc) (by rw [← HLB.out]; exact hr2)
            rw [← HLB.out] at e1
            have hfz := hblk2.out.frozen (k + j)
            have hck := hblk2.out.cell (k + j)
            rw [wcells_get _ _ _ (by omega)] at hck
            have HB1 := Lib.hid (hblk2.out.set_ (k + j) (.int .u64 (cc : Nat)))
            rw [wcells_set _ _ _ _ hr2.2.2, e1.2] at HB1
            have hb1 := hb2.setCell (p := ⟨g, k + j, none⟩) (Nat.le_refl _) (.int .u64 (cc : Nat))
            have hkj : (k : Int) + (j : Int) < (la : Int) + (j : Int) := by omega
            have hkj2 : k + j < la + j := by omega
            have HLh := Lib.hid hL
            have hk1 : (k : Int) + 1 ≤ 1000000000 := by omega
            have hk2 : (k : Int) ≤ 1000000000 := by omega
            clear hr2 e1 hj hltj hL hLi hlai hlbi hsl
            go_wp2
            go_roundw
            case rel => exact ⟨k + 1, by omega, by go_num, HB1, hb1⟩
            case measure => simp [intOf]; omega
    · obtain rfl : k = la := by omega
      have HB1 := hblk.out
      rw [Nat.mod_eq_of_lt HA.out] at HB1
      have HB1' := Lib.hid HB1
      have hs : a * b < W ^ (k + lb) := by
        have := row_lt (a := a) (b := b) (k := k)
        rw [Nat.mod_eq_of_lt HA.out, ← HLB.out] at this; exact this
      have HS := Lib.hid hs
      clear HB1 hs
      go_wp2_with fail
      refine (Cut_c (some ⟨g, 0, none⟩) (k + lb) (k + lb) _ (g + 1) _ HS.out (Nat.le_refl _) (by omega) (Row.of_blk HB1'.out (by omega))).mono ?_
      rintro e w' ⟨rfl, rfl⟩
      go_wp2
      go_ret
      have hnd := nd_le W2 HS.out
      exact NumPost.mk hnd ((Row.of_blk HB1'.out HB1'.out.lt).less hnd) (by rw [← HG.out]; exact hb)
end Go.Proofs.YtajcapliokblfaaDoor
set_option linter.unusedSimpArgs false
set_option linter.unusedVariables false
namespace Go.Proofs.YtajcapliokblfaaDoor
open Go Go.RowKit Nt

/-- The strings that stand at A. -/
def Strs (w : World) (A : Option Addr) (ss : List ByteArray) : Prop := 0 < ss.length → ∃ ad, A = some ad ∧ ∀ j (h : j < ss.length), w.cell? (ad.add j) = some (.string ss[j])
theorem Strs.at_ {w : World} {A : Option Addr} {ss : List ByteArray} (h : Strs w A ss) {k : Nat} (hk : k < ss.length) : ∃ ad, A = some ad ∧ w.cell? (ad.add k) = some (.string ss[k]) := by
  obtain ⟨ad, e, hc⟩ := h (by omega); exact ⟨ad, e, hc k hk⟩
theorem block_of_add' (a : Addr) (n : Nat) : (a.add n).block = a.block := by unfold Addr.add; split <;> rfl
instance (s : ByteArray) : Decidable (May s) := inferInstanceAs (Decidable (_ ∧ _))
@[irreducible] def mayE (ss : List ByteArray) : Int := if ∀ s ∈ ss, May s then 0 else 2
theorem mayE_ok {ss : List ByteArray} (h : ∀ s ∈ ss, May s) : mayE ss = 0 := by unfold mayE; rw [if_pos h]
theorem mayE_no {ss : List ByteArray} {s : ByteArray} (h : s ∈ ss) (hs : ¬ May s) : mayE ss = 2 := by unfold mayE; rw [if_neg (fun c => hs (c s h))]
theorem u8_eqz (x : UInt8) (h : x.toNat = 0) : ((x.toNat : Int) == 0) = true := eqz_true h
theorem u8_nez (x : UInt8) (h : x.toNat ≠ 0) : ((x.toNat : Int) == 0) = false := eqz_false h
set_option maxRecDepth 100000 in
set_option maxHeartbeats 400000 in
theorem all_c (A : Option Addr) (c : Nat) (ss : List ByteArray) (w : World) (hl : ss.length ≤ 9223372036854775807) (h : Strs w A ss) :
    Calls Tryd.prog 46 #[.slice A ss.length c] w fun e w' => e = .returned (.int .i64 (mayE ss)) ∧ w = w' := by
  have HS := Lib.hid h
  clear h
  go_enter Tryd.func46, Tryd.ntmps46
  go_wp2
  go_loop [7] (fun i => ∃ k : Nat, k ≤ ss.length ∧ i = .int .i64 k ∧ Hid (∀ s ∈ ss.take k, May s)) (fun i => ss.length - (intOf i).toNat)
  case atStart => exact ⟨0, Nat.zero_le _, rfl, Lib.hid (by simp)⟩
  case round =>
    obtain ⟨k, hk, rfl, hm⟩ := hrel
    by_cases hlt : k < ss.length
    · obtain ⟨ad, rfl, hc⟩ := HS.out.at_ hlt
      have hmem : ss[k] ∈ ss := List.getElem_mem hlt
      have hnext : May ss[k] → ∀ s ∈ ss.take (k + 1), May s := fun h s hs => by
        rw [List.take_succ_eq_append_getElem hlt, List.mem_append] at hs
        rcases hs with hs | hs
        · exact hm.out s hs
        · rw [List.mem_singleton] at hs; rw [hs]; exact h
      have HM := Lib.hid hmem
      have HN := Lib.hid hnext
      clear hmem hnext
      generalize ss[k] = s at *
      by_cases h1 : 16384 < s.size
      · have HB : Hid (¬ May s) := Lib.hid (fun c => by have := c.1; omega)
        have h1' : decide ((s.size : Int) > 16384) = true := decide_eq_true (by omega)
        have h1'' : (16384 : Int) < (s.size : Int) := by omega
        go_wp2
        go_ret
        exact ⟨ret_int (mayE_no HM.out HB.out).symm, rfl⟩
      · have h1'' : ¬ (16384 : Int) < (s.size : Int) := by omega
        have h1s : s.size ≤ 16384 := by omega
        by_cases h2 : s.size = 0
        · have HG : Hid (May s) := Lib.hid ⟨by omega, fun h => by omega⟩
          have h2' : ¬ (0 : Int) < (s.size : Int) := by omega
          have h2'' : ¬ 0 < s.size := by omega
          have H2 := Lib.hid h2
          clear h2
          go_wp2
          go_round
          case rel => exact ⟨k + 1, by omega, by go_num, Lib.hid (HN.out HG.out)⟩
          case measure => simp [intOf]; omega
        · have h2' : 0 < s.size := by omega
          by_cases h3 : (s[0]'h2').toNat = 0
          · have HB : Hid (¬ May s) := Lib.hid (fun c => c.2 h2' h3)
            have h3' := u8_eqz _ h3
            have H3 := Lib.hid h3
            clear h3
            go_wp2
            go_ret
            exact ⟨ret_int (mayE_no HM.out HB.out).symm, rfl⟩
          · have HG : Hid (May s) := Lib.hid ⟨by omega, fun _ => h3⟩
            have h3' := u8_nez _ h3
            have H3 := Lib.hid h3
            clear h3
            go_wp2
            go_round
            case rel => exact ⟨k + 1, by omega, by go_num, Lib.hid (HN.out HG.out)⟩
            case measure => simp [intOf]; omega
    · obtain rfl : k = ss.length := by omega
      go_wp2
      go_ret
      have := hm.out
      rw [List.take_length] at this
      exact ⟨ret_int (mayE_ok this).symm, rfl⟩
/-- A block of texts. -/
theorem strs_new (w : World) (T : TypeId) (ss : List ByteArray) : Strs (w.alloc (.cells (ss.map Value.string).toArray T)) (some ⟨w.heap.size, 0, none⟩) ss := fun _ =>
  ⟨_, rfl, fun j h => by rw [add_plain0, World.cell?_alloc_new]; simp [h]⟩
set_option maxRecDepth 100000 in
theorem Check_c (s : ByteArray) (w : World) :
    Calls Tryd.prog 28 #[.string s] w fun e w' => e = .returned (.int .i64 (mayE [s])) ∧ Below w.heap.size w w' := by
  go_enter Tryd.func28, Tryd.ntmps28
  go_wp2_with fail
  refine (all_c _ 1 [s] _ (by simp) (strs_new w 23 [s])).mono ?_
  rintro e w' ⟨rfl, rfl⟩
  go_wp2
  go_ret
  exact ⟨rfl, (Below.refl _ _).alloc (Nat.le_refl _) _⟩
theorem words_c (n : Nat) (w : World) (hn : fits n) :
    Calls Tryd.prog 49 #[.string (natS n)] w (NumPost n w) := by
  have hz : (natS n).size ≤ 1000000000 := by rw [natS_size]; unfold fits at hn; omega
  have hr := Read_c (natS n) w hz
  rw [bytesN_natS] at hr
  have HR := Lib.hid hr
  clear hr
  go_enter Tryd.func49, Tryd.ntmps49
  go_wp2_with fail
  refine HR.out.mono ?_
  intro e w' hp
  obtain ⟨A, c, rfl, hc, hrow, hb⟩ := hp.get
  go_wp2
  go_ret
  exact NumPost.mk hc hrow hb
/-- The answer of what makes a number, and its error. -/
@[irreducible] def resS (n : Nat) : ByteArray := if fits n then natS n else ⟨#[]⟩
@[irreducible] def resE (n : Nat) : Int := if fits n then 0 else 4
theorem resS_ok {n : Nat} (h : fits n) : resS n = natS n := by unfold resS; rw [if_pos h]
theorem resE_ok {n : Nat} (h : fits n) : resE n = 0 := by unfold resE; rw [if_pos h]
theorem resS_no {n : Nat} (h : ¬ fits n) : resS n = ⟨#[]⟩ := by unfold resS; rw [if_neg h]
theorem resE_no {n : Nat} (h : ¬ fits n) : resE n = 4 := by unfold resE; rw [if_neg h]
/-- A text and an error; memory below is as it was. -/
def StrPost (s : ByteArray) (r : Int) (w : World) (e : Ending) (w' : World) : Prop := e = .returned (.tuple #[.string s, .int .i64 r]) ∧ Below w.heap.size w w'
@[irreducible] def longB (n : Nat) : Bool := decide (131072 < n)
@[local go_sem] theorem gt_long (n : Nat) : decide ((131072 : Int) < (n : Int)) = longB n := by
  unfold longB; rw [Bool.eq_iff_iff, decide_eq_true_iff, decide_eq_true_iff]; omega
theorem longB_iff (n : Nat) : longB (nd 2 n) = decide (¬ fits n) := by
  unfold longB fits
  have := bits_le n 16384
  rw [Bool.eq_iff_iff, decide_eq_true_iff, decide_eq_true_iff]; omega
set_option maxRecDepth 100000 in
theorem made_c (A : Option Addr) (c n B : Nat) (w : World) (hL : nd W n ≤ 1000000000) (hr : Row w B A n (nd W n)) (hB : B ≤ w.heap.size) :
    Calls Tryd.prog 47 #[.slice A (nd W n) c] w (StrPost (resS n) (resE n) w) := by
  have HR := Lib.hid hr
  clear hr
  by_cases h : fits n
  · have hl : longB (nd 2 n) = false := by rw [longB_iff]; simp [h]
    have HE := Lib.hid (resE_ok h)
    have HS := Lib.hid (resS_ok h)
    go_enter Tryd.func47, Tryd.ntmps47
    go_wp2_with (first | (go_at_call 66; refine (Len_c _ _ _ B _ hL HR.out).mono ?_; rintro e w' ⟨rfl, rfl⟩) | (go_at_call 67; refine (Bytes_c _ _ _ B _ hL HR.out hB).mono ?_; rintro e w' ⟨rfl, hb⟩))
    go_ret2
    exact ⟨by rw [HE.out, HS.out]; rfl, hb⟩
  · have hl : longB (nd 2 n) = true := by rw [longB_iff]; simp [h]
    have HE := Lib.hid (resE_no h)
    have HS := Lib.hid (resS_no h)
    go_enter Tryd.func47, Tryd.ntmps47
    go_wp2_with (first | (go_at_call 66; refine (Len_c _ _ _ B _ hL HR.out).mono ?_; rintro e w' ⟨rfl, rfl⟩))
    go_ret2
    exact ⟨by rw [HE.out, HS.out]; rfl, Below.refl _ _⟩
end Go.Proofs.YtajcapliokblfaaDoor
set_option linter.unusedSimpArgs false
set_option linter.unusedVariables false
namespace Go.Proofs.YtajcapliokblfaaDoor
open Go Go.RowKit Nt

@[irreducible] def brB (n : Nat) : Bool := decide (nd 256 n ≤ 8)
@[irreducible] def brN (n : Nat) : Nat := if nd 256 n ≤ 8 then n else 0
theorem brB_yes {n : Nat} (h : nd 256 n ≤ 8) : brB n = true := by unfold brB; exact decide_eq_true h
theorem brB_no {n : Nat} (h : ¬ nd 256 n ≤ 8) : brB n = false := by unfold brB; exact decide_eq_false h
theorem brN_yes {n : Nat} (h : nd 256 n ≤ 8) : brN n = n := by unfold brN; rw [if_pos h]
theorem brN_no {n : Nat} (h : ¬ nd 256 n ≤ 8) : brN n = 0 := by unfold brN; rw [if_neg h]
theorem br_lt {n : Nat} : nd 256 n ≤ 8 ↔ n < 18446744073709551616 := by
  rw [← lt_pow_iff (by omega)]
theorem brN_lt (n : Nat) : brN n < 18446744073709551616 := by
  by_cases h : nd 256 n ≤ 8
  · rw [brN_yes h]; exact br_lt.1 h
  · rw [brN_no h]; omega
/-- The value of the bytes ahead of the place k. -/
@[irreducible] def preN (n k : Nat) : Nat := n / 256 ^ (nd 256 n - k)
theorem preN_zero (n : Nat) : preN n 0 = 0 := by unfold preN; rw [Nat.sub_zero]; exact Nat.div_eq_of_lt (lt_nd (by omega))
theorem preN_full (n : Nat) : preN n (nd 256 n) = n := by unfold preN; rw [Nat.sub_self, Nat.pow_zero, Nat.div_one]
theorem preN_succ (n k : Nat) (h : k < nd 256 n) : preN n (k + 1) = 256 * preN n k + dgt 256 n (nd 256 n - 1 - k) := by
  unfold preN
  obtain ⟨m, hm⟩ : ∃ m, nd 256 n = k + 1 + m := ⟨nd 256 n - k - 1, by omega⟩
  rw [hm, show k + 1 + m - (k + 1) = m by omega, show k + 1 + m - k = m + 1 by omega, show k + 1 + m - 1 - k = m by omega, div_eq_dgt (by omega) n m, Nat.add_comm]
theorem preN_le (n k : Nat) : preN n k ≤ n := by unfold preN; exact Nat.div_le_self _ _
set_option maxRecDepth 100000 in
set_option maxHeartbeats 400000 in
theorem brief_c (n : Nat) (w : World) (hf : fits n) :
    Calls Tryd.prog 102 #[.string (natS n)] w fun e w' => e = .returned (.tuple #[.int .u64 (brN n : Nat), .bool (brB n)]) ∧ w = w' := by
  have hsz := natS_size n
  unfold fits at hf
  by_cases h : nd 256 n ≤ 8
  · have HB := Lib.hid (brB_yes h)
    have HN := Lib.hid (brN_yes h)
    have hlt8 : n < 18446744073709551616 := br_lt.1 h
    have HL := Lib.hid hlt8
    have h8 : ¬ 8 < nd 256 n := by omega
    clear hlt8
    go_enter Tryd.func102, Tryd.ntmps102
    go_wp2
    go_loop [2, 10] (fun v i => ∃ k : Nat, k ≤ nd 256 n ∧ i = .int .i64 k ∧ v = .int .u64 (preN n k : Nat)) (fun _ i => nd 256 n - (intOf i).toNat)
    case atStart => exact ⟨0, Nat.zero_le _, rfl, by rw [preN_zero]; rfl⟩
    case round =>
      obtain ⟨k, hk, rfl, rfl⟩ := hrel
      by_cases hlt : k < nd 256 n
      · have hks : k < (natS n).size := by omega
        have e := natS_get n k hks
        have es := preN_succ n k hlt
        have hp1 := preN_le n (k + 1)
        have hHL := HL.out
        have hv : bits .or .u64 (IntKind.u64.wrap ((preN n k : Nat) * 256)) (IntKind.u64.wrap (((natS n)[k].toNat : Nat) : Int)) = ((preN n (k + 1) : Nat) : Int) := by
          have hb := (natS n)[k].toNat_lt
          have e1 : IntKind.u64.wrap ((preN n k : Nat) * 256) = ((256 * preN n k : Nat) : Int) := by rw [IntKind.wrap_u64]; omega
          have e2 : IntKind.u64.wrap (((natS n)[k].toNat : Nat) : Int) = (((natS n)[k].toNat : Nat) : Int) := by rw [IntKind.wrap_u64]; omega
          rw [e1, e2, bits_or_u64_nat _ _ (by omega) (by omega), es, ← e]
          have := or_hi (preN n k) (natS n)[k].toNat 8 hb
          exact congrArg Int.ofNat this
        have HV := Lib.hid hv
        have E := Lib.hid e
        have ES := Lib.hid es
        clear e es hv hp1 hHL
        go_wp2
        go_round
        case rel => exact ⟨k + 1, by omega, by go_num, by rw [HV.out]⟩
        case measure => simp [intOf]; omega
      · obtain rfl : k = nd 256 n := by omega
        rw [preN_full]
        go_wp2
        go_ret2
        exact ⟨by rw [HB.out, HN.out]; rfl, rfl⟩
  · have HB := Lib.hid (brB_no h)
    have HN := Lib.hid (brN_no h)
    have h8 : 8 < nd 256 n := by omega
    go_enter Tryd.func102, Tryd.ntmps102
    go_wp2
    go_ret2
    exact ⟨by rw [HB.out, HN.out]; rfl, rfl⟩
/-- The cells of the array when k bytes stand at its end. -/
def ofF (n k j : Nat) : Nat := if 8 - k ≤ j ∧ j < 8 then dgt 256 n (7 - j) else 0
theorem ofF_step (n k i j : Nat) (h : i + (k + 1) = 8) (hj : j < 8) : (if j = i then dgt 256 n k else ofF n k j) = ofF n (k + 1) j := by
  unfold ofF
  by_cases h1 : j = i
  · rw [if_pos h1, if_pos (by omega)]; congr 1; omega
  · rw [if_neg h1]
    by_cases h2 : 8 - k ≤ j ∧ j < 8
    · rw [if_pos h2, if_pos (by omega)]
    · rw [if_neg h2, if_neg (by omega)]
theorem add_plainO (g k j : Nat) : (⟨g, k, none⟩ : Addr).add j = ⟨g, k + j, none⟩ := by
  unfold Addr.add; split
  · rename_i h; subst h; rfl
  · simp
theorem neqz_true {x : Nat} (h : x ≠ 0) : (((x : Nat) : Int) != 0) = true := by rw [bne_iff_ne]; omega
theorem neqz_false {x : Nat} (h : x = 0) : (((x : Nat) : Int) != 0) = false := by subst h; rfl
theorem arr_slice (g j : Nat) (h : j ≤ 8) : ∃ A : Option Addr, ((8 - j ≠ 0 → A = some ⟨g, j, none⟩) ∧ ∃ ad, A = some ad) ∧ ∀ w, (Instr.sliceAt 105 (.pointer (some ⟨g, 0, none⟩)) (some (.int .i64 j)) none none).run Tryd.prog w = .ok (.slice A (8 - j) (8 - j)) w := by
  refine ⟨if 8 = j then some ⟨g, 0, none⟩ else some ⟨g, j, none⟩, ⟨fun h0 => by rw [if_neg (by omega)], by split <;> exact ⟨_, rfl⟩⟩, fun w => ?_⟩
  have hal : Tryd.prog.arrayLen 105 = 8 := by kernel_rfl
  have ht : Tryd.prog.underlying 105 = some (.array (Tryd.prog.arrayLen 105) (Tryd.prog.elem 105)) := by kernel_rfl
  have he : Tryd.prog.elem 105 = 5 := by kernel_rfl
  rw [run_sliceAt_array_l w 105 ⟨g, 0, none⟩ ht .i64 _ (by omega) (by rw [hal]; omega), he, Tryd.sizeOf5 w, hal]
  simp only [Result.andThen, slicedAt, Int.toNat_natCast]
  by_cases h1 : 8 = j
  · rw [if_pos h1, if_pos h1]
  · rw [if_neg h1, if_neg h1, Nat.mul_one, add_plain0]
set_option maxRecDepth 100000 in
set_option maxHeartbeats 400000 in
theorem Of_n (n : Nat) (w : World) (hn : n < 18446744073709551616) :
    Calls Tryd.prog 58 #[.int .u64 (n : Nat)] w fun e w' => e = .returned (.string (natS n)) ∧ Below w.heap.size w w' := by
  have H8 := Lib.hid (br_lt.2 hn)
  have HN := Lib.hid hn
  clear hn
  go_enter Tryd.func58, Tryd.ntmps58
  go_wp2
  have h0 : (#[Value.int IntKind.u8 0, Value.int IntKind.u8 0, Value.int IntKind.u8 0, Value.int IntKind.u8 0, Value.int IntKind.u8 0, Value.int IntKind.u8 0, Value.int IntKind.u8 0, Value.int IntKind.u8 0] : Array Value) = fcells .u8 (ofF n 0) 8 := by
    rw [fcells_congr (f' := fun _ => 0) (fun j hj => by unfold ofF; rw [if_neg (by omega)])]; rfl
  rw [h0]
  have HB0 := Lib.hid (Blk.new w 105 (fcells .u8 (ofF n 0) 8))
  have hbl : Below w.heap.size w (w.alloc (.cells (fcells .u8 (ofF n 0) 8) 105)) := (Below.refl _ _).alloc (Nat.le_refl _) _
  generalize w.alloc (.cells (fcells .u8 (ofF n 0) 8) 105) = w1 at *
  obtain ⟨g, hg⟩ : ∃ g, g = w.heap.size := ⟨_, rfl⟩
  rw [← hg] at HB0 hbl ⊢
  have HG := Lib.hid hg
  clear hg h0
  go_loopw [0, 4] (fun x i wr => ∃ (k m j : Nat), x = .int .u64 m ∧ i = .int .i64 j ∧ Hid (j + k = 8) ∧ Hid (m = n / 256 ^ k) ∧ Hid (k ≤ nd 256 n) ∧ Hid (Blk wr g 105 (fcells .u8 (ofF n k) 8)) ∧ Below g w wr) (fun _ i _ => (intOf i).toNat)
  case atStart => exact ⟨0, n, 8, rfl, rfl, Lib.hid rfl, Lib.hid (by rw [Nat.pow_zero, Nat.div_one]), Lib.hid (Nat.zero_le _), HB0, hbl⟩
  case round =>
    obtain ⟨k, m, j, rfl, rfl, hj, hm, hk, hblk, hb⟩ := hrel
    by_cases h0 : m = 0
    · have hz := neqz_false h0
      have hnd : nd 256 n = k := by
        have h1 := hm.out
        rw [h0] at h1
        have h2 : n < 256 ^ k := by
          rcases Nat.lt_or_ge n (256 ^ k) with h | h
          · exact h
          · have := Nat.div_pos h (Nat.pow_pos (n := k) (show 0 < 256 by omega)); omega
        have := nd_le (b := 256) (by omega) h2
        have := hk.out; omega
      have HND := Lib.hid hnd
      obtain ⟨A, hA, hsl⟩ := arr_slice g j (by have := hj.out; omega)
      have hcv : ∀ W, W = wr → (convert 74 23 (.slice A (8 - j) (8 - j))).run Tryd.prog W = .ok (.string (natS n)) W := by
        rintro W rfl
        have hl : ((dl 256 n (nd 256 n)).reverse.map UInt8.ofNat).length = 8 - j := by simp [dl_length, hnd]; have := hj.out; omega
        rcases Nat.eq_zero_or_pos k with hk0 | hk0
        · have e0 : (dl 256 n (nd 256 n)).reverse.map UInt8.ofNat = [] := by rw [hnd, hk0]; rfl
          have h8 : 8 - j = 0 := by have := hj.out; omega
          obtain ⟨ad, rfl⟩ := hA.2
          have h := run_convert_bytes_back (P := Tryd.prog) W 74 23 5 ad (8 - j) ((dl 256 n (nd 256 n)).reverse.map UInt8.ofNat) Tryd.underlying74 Tryd.underlying5 Tryd.underlying23 (fun i hi => by rw [hl] at hi; omega)
          rw [hl, ← natS_def] at h
          exact h
        · obtain rfl := hA.1 (by have := hj.out; omega)
          have h := run_convert_bytes_back (P := Tryd.prog) W 74 23 5 ⟨g, j, none⟩ (8 - j) ((dl 256 n (nd 256 n)).reverse.map UInt8.ofNat) Tryd.underlying74 Tryd.underlying5 Tryd.underlying23 (fun i hi => by
            have hi' : i < 8 - j := by rw [← hl]; exact hi
            rw [add_plainO, hblk.out.cell, fcells_get _ _ _ _ (by omega)]
            have e := natS_get n i (by rw [natS_size, hnd]; have := hj.out; omega)
            rw [ba_get] at e
            simp only [natS_def] at e
            rw [List.getElem_toArray] at e
            rw [e]
            unfold ofF
            have hj' := hj.out
            rw [if_pos (by omega), hnd, show 7 - (j + i) = k - 1 - i by omega])
          rw [hl, ← natS_def] at h
          exact h
      have hcv' := hcv wr rfl
      have hmz := Lib.hid h0
      clear hcv h0 hnd
      go_wp2
      go_ret
      exact ⟨rfl, by rw [← HG.out]; exact hb⟩
    · have hz := neqz_true h0
      have hnd : k < nd 256 n := by
        rcases Nat.lt_or_ge k (nd 256 n) with h | h
        · exact h
        · have := (lt_pow_iff (b := 256) (by omega) k n).2 h
          have h2 := hm.out
          rw [Nat.div_eq_of_lt this] at h2; omega
      obtain ⟨i, hi⟩ : ∃ i, j = i + 1 := ⟨j - 1, by have := hj.out; have := H8.out; omega⟩
      subst hi
      have hi8 : i < 8 := by have := hj.out; omega
      have hij : ((i : Int) + 1) - 1 = (i : Int) := by omega
      have hfz := hblk.out.frozen i
      have hck := hblk.out.cell i
      rw [fcells_get _ _ _ _ hi8] at hck
      have hv : IntKind.u8.wrap (m : Int) = ((dgt 256 n k : Nat) : Int) := by rw [wrap_u8, hm.out, dgt_def]
      have hm2 : (m : Int) / 256 = ((m / 256 : Nat) : Int) := by omega
      obtain ⟨m', hm'⟩ : ∃ m', m' = m / 256 := ⟨_, rfl⟩
      rw [← hm'] at hm2
      have HM' : Hid (m' = n / 256 ^ (k + 1)) := Lib.hid (by rw [hm', hm.out, Nat.pow_succ, Nat.div_div_eq_div_mul])
      have HB1 := Lib.hid (hblk.out.set_ i (.int .u8 (dgt 256 n k : Nat)))
      rw [fcells_set, fcells_congr (f' := ofF n (k + 1)) (fun x hx => ofF_step n k i x (by have := hj.out; omega) hx)] at HB1
      have hb1 := hb.setCell (p := ⟨g, i, none⟩) (Nat.le_refl _) (.int .u8 (dgt 256 n k : Nat))
      have HJ : Hid (i + (k + 1) = 8) := Lib.hid (by have := hj.out; omega)
      have HK : Hid (k + 1 ≤ nd 256 n) := Lib.hid (by omega)
      clear h0 hnd hm'
      go_wp2
      go_roundw
      case rel => exact ⟨k + 1, m', i, rfl, rfl, HJ, HM', HK, HB1, hb1⟩
      case measure => simp [intOf]
end Go.Proofs.YtajcapliokblfaaDoor
set_option linter.unusedSimpArgs false
set_option linter.unusedVariables false
namespace Go.Proofs.YtajcapliokblfaaDoor
open Go Go.RowKit Nt

/-! The order of texts. -/
def bvL (l : List UInt8) : Nat := of 256 (l.reverse.map UInt8.toNat)
theorem bvL_cons (x : UInt8) (l : List UInt8) : bvL (x :: l) = bvL l + 256 ^ l.length * x.toNat := by
  unfold bvL
  rw [List.reverse_cons, List.map_append, of_append]
  simp [of_cons, of_nil]
theorem bvL_lt (l : List UInt8) : bvL l < 256 ^ l.length := by
  have := of_lt (b := 256) (by omega) (l.reverse.map UInt8.toNat) (fun x hx => by obtain ⟨y, _, rfl⟩ := List.mem_map.1 hx; exact y.toNat_lt)
  rwa [List.length_map, List.length_reverse] at this
theorem bytesLess_iff : ∀ (l m : List UInt8), l.length = m.length → Op.bytesLess l m = decide (bvL l < bvL m)
  | [], [], _ => by simp [Op.bytesLess, bvL]
  | [], _ :: _, h => by simp at h
  | _ :: _, [], h => by simp at h
  | x :: l, y :: m, h => by
    have hl : l.length = m.length := by simpa using h
    have ih := bytesLess_iff l m hl
    have h1 := bvL_lt l
    have h2 := bvL_lt m
    rw [Op.bytesLess, ih, bvL_cons, bvL_cons, hl]
    rw [hl] at h1
    rw [Bool.eq_iff_iff, Bool.or_eq_true, Bool.and_eq_true, decide_eq_true_iff, decide_eq_true_iff, beq_iff_eq, decide_eq_true_iff, UInt8.lt_iff_toNat_lt]
    rcases Nat.lt_trichotomy x.toNat y.toNat with h3 | h3 | h3
    · have : 256 ^ m.length * (x.toNat + 1) ≤ 256 ^ m.length * y.toNat := Nat.mul_le_mul_left _ h3
      rw [Nat.mul_add] at this
      exact ⟨fun _ => by omega, fun _ => Or.inl h3⟩
    · have e : x = y := UInt8.toNat_inj.1 h3
      subst e
      constructor
      · rintro (h | ⟨_, h⟩)
        · omega
        · omega
      · intro h; exact Or.inr ⟨rfl, by omega⟩
    · have : 256 ^ m.length * (y.toNat + 1) ≤ 256 ^ m.length * x.toNat := Nat.mul_le_mul_left _ h3
      rw [Nat.mul_add] at this
      constructor
      · rintro (h | ⟨h, _⟩)
        · omega
        · subst h; omega
      · intro h; omega
theorem ba_toList (s : ByteArray) : s.toList = s.data.toList := Go.ByteArray.toList_eq s
theorem natS_less (a b : Nat) (h : nd 256 a = nd 256 b) : Op.bytesLess (natS a).toList (natS b).toList = decide (a < b) := by
  have e : ∀ n, bvL (natS n).toList = n := fun n => by rw [ba_toList]; exact bytesN_natS n
  have hl : (natS a).toList.length = (natS b).toList.length := by
    rw [ba_toList, ba_toList, Array.length_toList, Array.length_toList]
    exact (natS_size a).trans (h.trans (natS_size b).symm)
  rw [bytesLess_iff _ _ hl, e, e]
theorem natS_list_eq (a b : Nat) : (natS a).toList = (natS b).toList ↔ a = b := by
  constructor
  · intro h
    rw [ba_toList, ba_toList] at h
    exact natS_inj (ByteArray.ext (Array.toList_inj.1 h))
  · rintro rfl; rfl
theorem may2 {a b : Nat} (ha : fits a) (hb : fits b) : mayE [natS a, natS b] = 0 := mayE_ok (fun s hs => by
  rcases List.mem_cons.1 hs with rfl | hs
  · exact (may_natS a).2 ha
  · rw [List.mem_singleton.1 hs]; exact (may_natS b).2 hb)
theorem may1 {a : Nat} (ha : fits a) : mayE [natS a] = 0 := mayE_ok (fun s hs => by rw [List.mem_singleton.1 hs]; exact (may_natS a).2 ha)
theorem may1_no {s : ByteArray} (h : ¬ May s) : mayE [s] = 2 := mayE_no (List.mem_singleton.2 rfl) h
theorem may2_no {s t : ByteArray} (h : ¬ (May s ∧ May t)) : mayE [s, t] = 2 := by
  by_cases h1 : May s
  · exact mayE_no (s := t) (by simp) (fun c => h ⟨h1, c⟩)
  · exact mayE_no (s := s) (by simp) h1
set_option maxRecDepth 100000 in
theorem Small_c (n : Nat) (w : World) (hf : fits n) :
    Calls Tryd.prog 84 #[.string (natS n)] w fun e w' => e = .returned (.tuple #[.int .u64 (brN n : Nat), .bool (brB n)]) ∧ Below w.heap.size w w' := by
  have hm := may1 hf
  go_enter Tryd.func84, Tryd.ntmps84
  go_wp2_with (first | (go_at_call 28; refine (Check_c _ _).mono ?_; rintro e w1 ⟨rfl, hb⟩) | (go_at_call 102; refine (brief_c n _ hf).mono ?_; rintro e w' ⟨rfl, rfl⟩))
  go_ret2
  exact ⟨rfl, hb⟩
set_option maxRecDepth 100000 in
theorem Small_no (s : ByteArray) (w : World) (h : ¬ May s) :
    Calls Tryd.prog 84 #[.string s] w fun e w' => e = .returned (.tuple #[.int .u64 0, .bool false]) ∧ Below w.heap.size w w' := by
  have hm := may1_no h
  go_enter Tryd.func84, Tryd.ntmps84
  go_wp2_with (first | (go_at_call 28; refine (Check_c _ _).mono ?_; rintro e w1 ⟨rfl, hb⟩))
  go_ret2
  exact ⟨rfl, hb⟩
/-- Two integers and memory below as it was. -/
def IntPost (a b : Int) (w : World) (e : Ending) (w' : World) : Prop := e = .returned (.tuple #[.int .i64 a, .int .i64 b]) ∧ Below w.heap.size w w'
theorem compareInt_nd (a b : Nat) (h : nd 256 a ≠ nd 256 b) : Go.Lib.compareInt (nd 256 a : Nat) (nd 256 b : Nat) = cmpN a b := by
  unfold Go.Lib.compareInt
  rcases Nat.lt_or_gt_of_ne h with h1 | h1
  · rw [if_pos (by omega), cmpN_lt (lt_of_nd (by omega) h1)]
  · rw [if_neg (by omega), if_pos (by omega), cmpN_gt (lt_of_nd (by omega) h1)]
end Go.Proofs.YtajcapliokblfaaDoor
set_option linter.unusedSimpArgs false
set_option linter.unusedVariables false
namespace Go.Proofs.YtajcapliokblfaaDoor
open Go Go.RowKit Nt

theorem fits_words {n : Nat} (h : fits n) : nd W n ≤ 2048 := by
  unfold fits at h; rw [← words_bytes]; omega
theorem sum_words {a b : Nat} {m : Nat} (ha : nd W a ≤ m) (hb : nd W b ≤ m) : nd W (a + b) ≤ m + 1 := by
  refine nd_le W2 ?_
  have h1 := (lt_pow_iff W2 m a).2 ha
  have h2 := (lt_pow_iff W2 m b).2 hb
  rw [Nat.pow_succ]
  have h3 : 2 * W ^ m ≤ W ^ m * W := by rw [Nat.mul_comm]; exact Nat.mul_le_mul_left _ W2
  omega
theorem mul_words (a b : Nat) : nd W (a * b) ≤ nd W a + nd W b := by
  refine nd_le W2 ?_
  rw [Nat.pow_add]
  have h1 := lt_nd (n := a) W2
  have h2 := lt_nd (n := b) W2
  rcases Nat.eq_zero_or_pos b with h | h
  · subst h; rw [Nat.mul_zero]; exact Nat.mul_pos (Nat.pow_pos W0) (Nat.pow_pos W0)
  · exact Nat.lt_of_lt_of_le ((Nat.mul_lt_mul_right h).2 h1) (Nat.mul_le_mul_left _ (by omega))
/-- Do two brief numbers have a brief sum? -/
@[irreducible] def bsB (a b : Nat) : Bool := brB a && brB b && decide (a + b < 18446744073709551616)
@[irreducible] def bsS (a b : Nat) : ByteArray := if bsB a b = true then natS (a + b) else ⟨#[]⟩
theorem bsB_yes {a b : Nat} (h1 : brB a = true) (h2 : brB b = true) (h3 : a + b < 18446744073709551616) : bsB a b = true := by unfold bsB; rw [h1, h2, decide_eq_true h3]; rfl
theorem bsB_no1 {a b : Nat} (h : brB a = false) : bsB a b = false := by unfold bsB; rw [h]; rfl
theorem bsB_no2 {a b : Nat} (h : brB b = false) : bsB a b = false := by unfold bsB; rw [h, Bool.and_false]; rfl
theorem bsB_no3 {a b : Nat} (h : ¬ a + b < 18446744073709551616) : bsB a b = false := by unfold bsB; rw [decide_eq_false h, Bool.and_false]
theorem bsS_yes {a b : Nat} (h : bsB a b = true) : bsS a b = natS (a + b) := by unfold bsS; rw [if_pos h]
theorem bsS_no {a b : Nat} (h : bsB a b = false) : bsS a b = ⟨#[]⟩ := by unfold bsS; rw [if_neg (by rw [h]; decide)]
theorem brB_true {n : Nat} (h : brB n = true) : nd 256 n ≤ 8 := by unfold brB at h; exact of_decide_eq_true h
/-- A text and a yes or no. -/
def StrBPost (s : ByteArray) (b : Bool) (w : World) (e : Ending) (w' : World) : Prop := e = .returned (.tuple #[.string s, .bool b]) ∧ Below w.heap.size w w'
theorem add_some (a b : Nat) : ∃ s cc : Nat, ∀ w, (callFunc 69 #[.int .u64 (brN a : Nat), .int .u64 (brN b : Nat), .int .u64 0]).run Tryd.prog w = .ok (.value (.tuple #[.int .u64 (s : Nat), .int .u64 (cc : Nat)])) w :=
  ⟨_, _, fun w => Tryd.bits_Add64 (brN a) (brN b) 0 (by omega) w⟩
end Go.Proofs.YtajcapliokblfaaDoor
set_option linter.unusedSimpArgs false
set_option linter.unusedVariables false
namespace Go.Proofs.YtajcapliokblfaaDoor
open Go Go.RowKit Nt

theorem sum_take (l : List Nat) (k : Nat) (h : k < l.length) : (l.take (k + 1)).sum = (l.take k).sum + l[k] := by
  rw [List.take_succ_eq_append_getElem h, List.sum_append]; simp
theorem sum_lt (l : List Nat) (m : Nat) (h : ∀ n ∈ l, n < m) : l.sum ≤ l.length * m := by
  induction l with
  | nil => simp
  | cons x l ih =>
    have h1 := ih (fun n hn => h n (List.mem_cons_of_mem _ hn))
    have h2 := h x (List.mem_cons_self ..)
    rw [List.sum_cons, List.length_cons, Nat.add_mul]; omega
theorem sum_ndm (l : List Nat) (m : Nat) (h : ∀ n ∈ l, nd W n ≤ m) (hl : l.length ≤ 140737488355328) : nd W l.sum ≤ m + 1 := by
  have h1 := sum_lt l (W ^ m) (fun n hn => (lt_pow_iff W2 _ _).2 (h n hn))
  refine nd_le W2 ?_
  rw [Nat.pow_succ]
  refine Nat.lt_of_le_of_lt h1 ?_
  rw [Nat.mul_comm]
  refine (Nat.mul_lt_mul_left (Nat.pow_pos W0)).2 ?_
  rw [W_eq]; omega
theorem sum_nd (l : List Nat) (h : ∀ n ∈ l, fits n) (hl : l.length ≤ 140737488355328) : nd W l.sum ≤ 2049 := sum_ndm l 2048 (fun n hn => fits_words (h n hn)) hl
theorem mem_take {α : Type} {l : List α} {k : Nat} {x : α} (h : x ∈ l.take k) : x ∈ l := List.mem_of_mem_take h
theorem may_all {l : List Nat} (h : ∀ n ∈ l, fits n) : mayE (l.map natS) = 0 := mayE_ok (fun s hs => by
  obtain ⟨n, hn, rfl⟩ := List.mem_map.1 hs; exact (may_natS n).2 (h n hn))
theorem len2 (l : List Nat) (h : l.length = 2) : ∃ a b, l = [a, b] := by
  match l, h with
  | [a, b], _ => exact ⟨a, b, rfl⟩
theorem two_cells {w : World} {A : Option Addr} {l : List Nat} (h2 : l.length = 2) (h : Strs w A (l.map natS)) (hf : ∀ n ∈ l, fits n) (hA : ∀ ad, A = some ad → ad.block < w.heap.size) :
    ∃ (a b : Nat) (ad : Addr), A = some ad ∧ ad.block < w.heap.size ∧ w.cell? ad = some (.string (natS a)) ∧ w.cell? (ad.add 1) = some (.string (natS b)) ∧ fits a ∧ fits b ∧ l.sum = a + b := by
  obtain ⟨a, b, rfl⟩ := len2 l h2
  obtain ⟨ad, rfl, hc0⟩ := h.at_ (k := 0) (by simp)
  obtain ⟨ad', e1, hc1⟩ := h.at_ (k := 1) (by simp)
  obtain rfl : ad = ad' := Option.some.inj e1
  rw [show ad.add 0 = ad by unfold Addr.add; rw [if_pos rfl]] at hc0
  exact ⟨a, b, ad, rfl, hA ad rfl, hc0, hc1, hf a (by simp), hf b (by simp), by simp⟩
theorem bsB_res {a b : Nat} (h : bsB a b = true) : resS (a + b) = natS (a + b) ∧ resE (a + b) = 0 := by
  have hs : a + b < 18446744073709551616 := by
    unfold bsB at h
    rw [Bool.and_eq_true, Bool.and_eq_true, decide_eq_true_iff] at h
    exact h.2
  have hf : fits (a + b) := by have := br_lt.2 hs; unfold fits; omega
  exact ⟨resS_ok hf, resE_ok hf⟩
/-- What stands in the strings' world. -/
def SB (w w' : World) : Prop := Below w.heap.size w w'
theorem SB_step {w w1 w2 : World} (h : SB w w1) (h2 : Below w1.heap.size w1 w2) : SB w w2 := Below.trans h (h2.mono h.size)
theorem SB_any {w w' : World} (h : SB w w') (n : Nat) : SB w (w'.drewN n) := below_drewN h n
end Go.Proofs.YtajcapliokblfaaDoor
set_option linter.unusedSimpArgs false
set_option linter.unusedVariables false
namespace Go.Proofs.YtajcapliokblfaaDoor
open Go Go.RowKit Nt

theorem fits_le {m n : Nat} (h : fits n) (hm : m ≤ n) : fits m := by unfold fits at *; exact Nat.le_trans (nd_mono (by omega) hm) h
theorem natS_empty {n : Nat} (h : n = 0) : (natS n).toList = [] := by subst h; rw [natS_zero, ba_toList]
theorem natS_full {n : Nat} (h : n ≠ 0) : ¬ (natS n).toList = [] := fun c => by
  rw [ba_toList] at c
  have h1 : (natS n).size = 0 := by show (natS n).data.size = 0; rw [← Array.length_toList, c]; rfl
  rw [natS_size, nd_eq_zero (by omega)] at h1; exact h h1
theorem natS_full2 {n : Nat} (h : n ≠ 0) : (natS n).toList.isEmpty = false := by
  have := natS_full h
  cases h2 : (natS n).toList with
  | nil => exact absurd h2 this
  | cons x l => rfl
theorem cmp_neg {a b : Nat} (h : a < b) : decide (cmpN a b < 0) = true := by rw [cmpN_lt h]; rfl
theorem cmp_pos {a b : Nat} (h : b ≤ a) : decide (cmpN a b < 0) = false := by
  rcases Nat.eq_or_lt_of_le h with h1 | h1
  · subst h1; rw [cmpN_eq]; rfl
  · rw [cmpN_gt h1]; rfl
/-- Is the product of two too long by the lengths alone? -/
theorem mul_long {a b : Nat} (ha : a ≠ 0) (hb : b ≠ 0) : nd 256 a - 1 + (nd 256 b - 1) < nd 256 (a * b) := by
  have h1 : nd 256 a ≠ 0 := fun c => ha ((nd_eq_zero (by omega)).1 c)
  have h2 : nd 256 b ≠ 0 := fun c => hb ((nd_eq_zero (by omega)).1 c)
  refine (pow_le_iff (by omega) _ _).1 ?_
  rw [Nat.pow_add]
  exact Nat.mul_le_mul ((pow_le_iff (by omega) _ _).2 (by omega)) ((pow_le_iff (by omega) _ _).2 (by omega))
theorem small_prod {x y : Nat} (h : x * y < 18446744073709551616) : x * y / 18446744073709551616 = 0 ∧ x * y % 18446744073709551616 = x * y := ⟨Nat.div_eq_of_lt h, Nat.mod_eq_of_lt h⟩
@[irreducible] def longI (z : Int) : Bool := decide (131072 < z)
@[local go_sem] theorem gt_longI (z : Int) : decide ((131072 : Int) < z) = longI z := by unfold longI; rfl
theorem mul_cases (a b : Nat) : (brB a = true ∧ brB b = true ∧ a * b < 18446744073709551616) ∨ brB a = false ∨ (brB a = true ∧ brB b = false) ∨ (brB a = true ∧ brB b = true ∧ ¬ a * b < 18446744073709551616) := by
  by_cases h3 : a * b < 18446744073709551616 <;> cases brB a <;> cases brB b <;> simp [h3]
theorem big_prod {a b : Nat} (h1 : brB a = true) (h2 : brB b = true) (h : ¬ a * b < 18446744073709551616) : ∃ hi lo : Nat, ((hi : Int) == 0) = false ∧
    ∀ w, Calls Tryd.prog 68 #[.int .u64 (a : Nat), .int .u64 (b : Nat)] w fun e w' => e = .returned (.tuple #[.int .u64 (hi : Nat), .int .u64 (lo : Nat)]) ∧ w' = w :=
  ⟨_, _, eqz_false (by have := Nat.div_pos (a := a * b) (b := 18446744073709551616) (by omega) (by omega); omega), fun w => Tryd.bits_Mul64 a b (br_lt.1 (brB_true h1)) (br_lt.1 (brB_true h2)) w⟩
/-- The test of the lengths. -/
theorem mul_test (a b : Nat) (ha : fits a) (hb : fits b) : (a = 0 ∨ b = 0 ∨ longI (8 * ((nd 256 a : Int) - 1) + 8 * ((nd 256 b : Int) - 1)) = false) ∨ (a ≠ 0 ∧ b ≠ 0 ∧ longI (8 * ((nd 256 a : Int) - 1) + 8 * ((nd 256 b : Int) - 1)) = true ∧ ¬ fits (a * b)) := by
  by_cases h1 : a = 0
  · exact Or.inl (Or.inl h1)
  by_cases h2 : b = 0
  · exact Or.inl (Or.inr (Or.inl h2))
  by_cases h3 : 131072 < 8 * ((nd 256 a : Int) - 1) + 8 * ((nd 256 b : Int) - 1)
  · refine Or.inr ⟨h1, h2, by unfold longI; exact decide_eq_true h3, fun c => ?_⟩
    have := mul_long h1 h2
    unfold fits at c; omega
  · exact Or.inl (Or.inr (Or.inr (by unfold longI; exact decide_eq_false h3)))
end Go.Proofs.YtajcapliokblfaaDoor
set_option linter.unusedSimpArgs false
set_option linter.unusedVariables false
namespace Go.Proofs.YtajcapliokblfaaDoor
open Go Go.RowKit Nt

theorem below_chain {a b c : World} (h1 : Below a.heap.size a b) (h2 : Below b.heap.size b c) : Below a.heap.size a c := h1.trans (h2.mono h1.size)
theorem nne_true {x : Nat} (h : x ≠ 0) : (((x : Nat) : Int) != 0) = true := by rw [bne_iff_ne]; omega
theorem nne_false {x : Nat} (h : x = 0) : (((x : Nat) : Int) != 0) = false := by subst h; rfl
/-- A slice of the call's own that holds these numbers. -/
def Own (w : World) (B : Nat) (T : TypeId) (k : IntKind) (v : Value) (l : List Nat) : Prop := w.ownsRow B T 1 v l.length (l.map (fun (x : Nat) => Value.int k (x : Int)))
theorem Own.nil (w : World) (B : Nat) (T : TypeId) (k : IntKind) : Own w B T k (.slice none 0 0) [] := World.ownsRow_nil w B T 1
theorem Own.form {w : World} {B : Nat} {T : TypeId} {k : IntKind} {v : Value} {l : List Nat} (h : Own w B T k v l) :
    (v = .slice none 0 0 ∧ l = []) ∨ ∃ g cap cs, v = .slice (some ⟨g, 0, none⟩) l.length cap ∧ B ≤ g ∧ g < w.heap.size ∧ Blk w g T cs ∧ l.length ≤ cap ∧ cap ≤ 9223372036854775807 ∧ ∀ j, (hj : j < l.length) → cs[j]? = some (.int k (l[j] : Nat)) := by
  rcases h.2 with ⟨rfl, h0⟩ | ⟨g, cap, cur, rfl, hB, hh, hn, hm, hs, ht⟩
  · exact Or.inl ⟨rfl, List.eq_nil_of_length_eq_zero h0⟩
  · refine Or.inr ⟨g, cap, cur, rfl, hB, Blk.lt hh, hh, hn, by simpa [maxLen] using hm, fun j hj => ?_⟩
    have e := congrArg (fun x => x[j]?) ht
    simp only [Nat.mul_one] at e
    rw [List.getElem?_take, if_pos hj, List.getElem?_map, List.getElem?_eq_getElem hj] at e
    rw [← Array.getElem?_toList]; exact e
theorem Own.cell {w : World} {B : Nat} {T : TypeId} {k : IntKind} {v : Value} {l : List Nat} (h : Own w B T k v l) {j : Nat} (hj : j < l.length) :
    ∃ g cap, v = .slice (some ⟨g, 0, none⟩) l.length cap ∧ B ≤ g ∧ g < w.heap.size ∧ w.cell? ⟨g, j, none⟩ = some (.int k (l[j] : Nat)) ∧ w.frozen? ⟨g, j, none⟩ = false := by
  rcases h.form with ⟨_, rfl⟩ | ⟨g, cap, cs, rfl, hB, hg, hb, _, _, hc⟩
  · simp at hj
  · exact ⟨g, cap, rfl, hB, hg, by rw [hb.cell, hc j hj], hb.frozen j⟩
theorem Own.below {w w' : World} {B B' : Nat} {T : TypeId} {k : IntKind} {v : Value} {l : List Nat} (h : Own w B T k v l) (hb : Below B' w w') (hB : ∀ g, v.ownBlock = some g → g < B') : Own w' B T k v l := by
  rcases h.2 with ⟨rfl, h0⟩ | ⟨g, cap, cur, rfl, hB1, hh, hn, hm, hs, ht⟩
  · exact ⟨h.1, Or.inl ⟨rfl, h0⟩⟩
  · exact ⟨h.1, Or.inr ⟨g, cap, cur, rfl, hB1, (hb.block g (hB g rfl)).trans hh, hn, hm, hs, ht⟩⟩
theorem Own.base {w : World} {B B' : Nat} {T : TypeId} {k : IntKind} {v : Value} {l : List Nat} (h : Own w B T k v l) (hB : B' ≤ B) : Own w B' T k v l := by
  rcases h.2 with ⟨rfl, h0⟩ | ⟨g, cap, cur, rfl, hB1, hh, hn, hm, hs, ht⟩
  · exact ⟨h.1, Or.inl ⟨rfl, h0⟩⟩
  · exact ⟨h.1, Or.inr ⟨g, cap, cur, rfl, by omega, hh, hn, hm, hs, ht⟩⟩
theorem Own.lt {w : World} {B : Nat} {T : TypeId} {k : IntKind} {v : Value} {l : List Nat} (h : Own w B T k v l) : ∀ g, v.ownBlock = some g → B ≤ g ∧ g < w.heap.size := World.ownsRow.lt h
theorem Own.whole {w w' : World} {B : Nat} {T : TypeId} {k : IntKind} {v : Value} {l : List Nat} (h : Own w B T k v l) (hb : Below w.heap.size w w') : Own w' B T k v l := h.below hb fun g e => (h.lt g e).2
theorem Own.drewN {w : World} {B : Nat} {T : TypeId} {k : IntKind} {v : Value} {l : List Nat} (h : Own w B T k v l) (n : Nat) : Own (w.drewN n) B T k v l := h
theorem Own.len {w : World} {B : Nat} {T : TypeId} {k : IntKind} {v : Value} {l : List Nat} (h : Own w B T k v l) : ∃ A c, v = .slice A l.length c ∧ l.length ≤ c := by
  rcases h.form with ⟨rfl, rfl⟩ | ⟨g, cap, cs, rfl, _, _, _, hc, _⟩
  · exact ⟨none, 0, rfl, Nat.le_refl _⟩
  · exact ⟨_, _, rfl, hc⟩
/-- What an append leaves as it was. -/
def Frm (w0 w' : World) (v : Value) : Prop := ∀ k, k < w0.heap.size → some k ≠ v.ownBlock → w'.heap[k]? = w0.heap[k]?
theorem Frm.cell {w0 w' : World} {v : Value} (h : Frm w0 w' v) {p : Addr} (hp : p.block < w0.heap.size) (hne : some p.block ≠ v.ownBlock) : w'.cell? p = w0.cell? p := World.cell?_of_block (h p.block hp hne)
theorem Row.frm {w0 w' : World} {v : Value} {A : Option Addr} {n L : Nat} (hr : Row w0 w0.heap.size A n L) (h : Frm w0 w' v) (hd : ∀ g, A = some ⟨g, 0, none⟩ → v.ownBlock ≠ some g) (hs : w0.heap.size ≤ w'.heap.size) : Row w' w'.heap.size A n L := fun hL => by
  obtain ⟨g, e, hg, hc⟩ := hr hL
  exact ⟨g, e, by omega, fun j hj => (h.cell (p := ⟨g, j, none⟩) hg (fun c => hd g e c.symm)).trans (hc j hj)⟩
theorem Own.frm {w0 w' : World} {B : Nat} {T : TypeId} {k : IntKind} {v u : Value} {l : List Nat} (ho : Own w0 B T k u l) (h : Frm w0 w' v) (hd : ∀ g, u.ownBlock = some g → v.ownBlock ≠ some g) : Own w' B T k u l := by
  rcases ho.2 with ⟨rfl, h0⟩ | ⟨g, cap, cur, rfl, hB1, hh, hn, hm, hs, ht⟩
  · exact ⟨ho.1, Or.inl ⟨rfl, h0⟩⟩
  · exact ⟨ho.1, Or.inr ⟨g, cap, cur, rfl, hB1, (h g (Blk.lt hh) (fun c => hd g rfl c.symm)).trans hh, hn, hm, hs, ht⟩⟩
/-- 'append(s, x)'. -/
theorem wpList_app1 {P : Program} (w0 : World) {ops : Array Oper} {rest : List Oper} {o : Oper} {a : Act} {Q : Exit → Act → World → Prop} (hgd : o.guard = none) (s x : Operand) (t : TypeId)
    (ho : o.op = .call { callee := .builtin .append, args := #[s, x], argTypes := #[t, t] })
    (B : Nat) (e U : TypeId) (i : TypeInfo) (k : IntKind) (bytes : Nat) (ht : P.underlying t = some (.slice e)) (hi : P.info? e = some i) (hz : i.zero = some (.int k 0))
    (hsize : i.size = 1) (hby : i.bytes = bytes) (hb8 : bytes ≤ 8)
    (v : Value) (l : List Nat) (y : Nat) (hs : a.eval s = v) (hx : a.eval x = .slice (some ⟨w0.heap.size, 0, none⟩) 1 1) (hown : Own w0 B e k v l)
    (hn : l.length + 1 ≤ 17592186044416) (hB : B ≤ w0.heap.size)
    (h : ∀ v' w', Own w' B e k v' (l ++ [y]) → Below B w0 w' → Frm w0 w' v → (∀ g, v'.ownBlock = some g → v.ownBlock = some g ∨ w0.heap.size ≤ g) → wpList P ops Q rest (a.put o.dst v') w') :
    wpList P ops Q (o :: rest) a (w0.alloc (.cells #[.int k (y : Nat)] U)) := by
  have hbytes : (l.length + 1) * bytes ≤ 140737488355328 := by
    have h1 : (l.length + 1) * bytes ≤ (l.length + 1) * 8 := Nat.mul_le_mul_left _ hb8
    omega
  have hown1 : (w0.alloc (.cells #[.int k (y : Nat)] U)).ownsRow B e 1 v l.length (l.map (fun (x : Nat) => Value.int k (x : Int))) := World.ownsRow.alloc hown _
  refine wpList_plain hgd fun _ hK => ?_
  obtain ⟨v', w', hrun, h2, hg, _, h5⟩ := run_append_own_at (P := P) (w0.alloc (.cells #[.int k (y : Nat)] U)) B t o.type e i (.int k 0) 1 bytes ht hi hz hsize hby rfl (by omega) v l.length (l.map (fun (x : Nat) => Value.int k (x : Int))) hown1
    ⟨w0.heap.size, 0, none⟩ 1 1 [.int k (y : Nat)] rfl (by
      intro j u hu
      have hj : j = 0 := by
        rcases Nat.lt_or_ge j 1 with h | h
        · omega
        · rw [List.getElem?_eq_none (by simpa using h)] at hu; cases hu
      subst hj
      rw [add_plain0, World.cell?_alloc_new]
      exact hu) (by
      intro u hu
      rw [List.mem_singleton.1 hu]; rfl) (by simp [maxLen]; omega) hbytes (by simp; omega)
  unfold Oper.wp execOp
  simp only [ho, resolve, invoke, builtin, Sem.run_bind, Sem.run_pure, Result.andThen_ok, List.map_toArray, List.map_cons, List.map_nil, hs, hx, hrun]
  refine hK _ _ (h v' w' ?_ ?_ ?_ ?_)
  · unfold Own
    simpa using h2
  · exact Below.grown ((Below.refl _ _).alloc hB _) hg (by simp; omega) (fun g e => (hown.lt g e).1)
  · intro k' hk hne
    rw [hg.block k' (by simp; omega) hne]
    exact Below.heap_alloc w0 _ k' hk
  · intro g hgo
    rcases h5 with h5 | h5
    · rw [← h5]; exact Or.inl hgo
    · rw [h5] at hgo
      have : g = w0.heap.size + 1 := by simpa using hgo.symm
      exact Or.inr (by omega)
/-- A block of bytes turned round. -/
def TurnPost (g n : Nat) (T : TypeId) (f : Nat → Nat) (w : World) (e : Ending) (w' : World) : Prop :=
  e = .returned (.tuple #[]) ∧ ∃ cs, Blk w' g T cs ∧ (∀ j, j < n → cs[j]? = some (.int .u8 (f (n - 1 - j) : Nat))) ∧ Below g w w'
/-- Where the byte at p stands when i have been exchanged. -/
def swF (f : Nat → Nat) (n i p : Nat) : Nat := if p < i ∨ n - i ≤ p then f (n - 1 - p) else f p
theorem sw_set {cs : Array Value} {n i : Nat} {f : Nat → Nat} (hc : ∀ j, j < n → cs[j]? = some (.int .u8 (swF f n i j : Nat))) (h : i < n - 1 - i) :
    ∀ j, j < n → ((cs.setIfInBounds i (.int .u8 (f (n - 1 - i) : Nat))).setIfInBounds (n - 1 - i) (.int .u8 (f i : Nat)))[j]? = some (.int .u8 (swF f n (i + 1) j : Nat)) := by
  intro j hj
  have hsz : n ≤ cs.size := by
    rcases Nat.lt_or_ge cs.size n with h1 | h1
    · have := hc (n - 1) (by omega)
      rw [Array.getElem?_eq_none (by omega)] at this; cases this
    · exact h1
  rw [Array.getElem?_setIfInBounds, Array.size_setIfInBounds]
  by_cases h1 : n - 1 - i = j
  · rw [if_pos h1, if_pos (by omega)]
    unfold swF
    rw [if_pos (by omega)]
    congr 4; omega
  · rw [if_neg h1, Array.getElem?_setIfInBounds]
    by_cases h2 : i = j
    · rw [if_pos h2, if_pos (by omega)]
      unfold swF
      rw [if_pos (by omega), h2]
    · rw [if_neg h2, hc j hj]
      unfold swF
      by_cases h3 : j < i ∨ n - i ≤ j
      · rw [if_pos h3, if_pos (by omega)]
      · rw [if_neg h3, if_neg (by omega)]
set_option maxRecDepth 100000 in
set_option maxHeartbeats 1000000 in
theorem Reverse_c (g n cap : Nat) (T : TypeId) (cs : Array Value) (f : Nat → Nat) (w : World) (hn : n ≤ 1000000000000) (hb : Blk w g T cs) (hc : ∀ j, j < n → cs[j]? = some (.int .u8 (f j : Nat))) :
    Calls Tryd.prog 51 #[.slice (some ⟨g, 0, none⟩) n cap] w (TurnPost g n T f w) := by
  have HB := Lib.hid hb
  have HC := Lib.hid hc
  have hw : wrap64 ((n : Int) - 1) = (n : Int) - 1 := IntWalk.wrap64_in _ (by omega)
  clear hb hc
  go_enter Tryd.func51, Tryd.ntmps51
  go_wp2
  go_loopw [2, 3] (fun x y wr => ∃ (i : Nat) (z : Int) (cs : Array Value), x = .int .i64 i ∧ y = .int .i64 z ∧ Hid (z = (n : Int) - 1 - (i : Int)) ∧ Hid (2 * i ≤ n + 1) ∧ Hid (Blk wr g T cs) ∧ Hid (∀ j, j < n → cs[j]? = some (.int .u8 (swF f n i j : Nat))) ∧ Below g w wr) (fun x _ _ => n - (intOf x).toNat)
  case atStart => exact ⟨0, (n : Int) - 1, cs, rfl, rfl, Lib.hid (by omega), Lib.hid (by omega), HB, Lib.hid (fun j hj => by rw [HC.out j hj]; unfold swF; rw [if_neg (by omega)]), Below.refl _ _⟩
  case round =>
    obtain ⟨i, z, cs', rfl, rfl, hz, hi, hblk, hcs, hbw⟩ := hrel
    by_cases hlt : i < n - 1 - i
    · obtain ⟨j, hj⟩ : ∃ j, n = i + 1 + j := ⟨n - i - 1, by omega⟩
      have hjz : z = (j : Int) := by have := hz.out; omega
      have hij : i < j := by omega
      have HJ := Lib.hid hj
      have hin : i < n := by omega
      have hjn : j < n := by omega
      have c1 := hblk.out.cell i
      rw [hcs.out i hin] at c1
      have c2 := hblk.out.cell j
      rw [hcs.out j hjn] at c2
      have f1 := hblk.out.frozen i
      have f2 := hblk.out.frozen j
      have e1 : swF f n i i = f i := by unfold swF; rw [if_neg (by omega)]
      have e2 : swF f n i j = f j := by unfold swF; rw [if_neg (by omega)]
      rw [e1] at c1
      rw [e2] at c2
      have hst := sw_set hcs.out hlt
      rw [show n - 1 - i = j by omega] at hst
      have HST := Lib.hid hst
      have b1 := Lib.hid (((hblk.out.set_ i (.int .u8 (f j : Nat))).set_ j (.int .u8 (f i : Nat))).drew)
      have bb := ((hbw.setCell (p := ⟨g, i, none⟩) (Nat.le_refl _) (.int .u8 (f j : Nat))).setCell (p := ⟨g, j, none⟩) (Nat.le_refl _) (.int .u8 (f i : Nat))).drew
      have hw2 : wrap64 ((j : Int) - 1) = (j : Int) - 1 := IntWalk.wrap64_in _ (by omega)
      have Hi := Lib.hid hi
      subst hjz
      clear hst hj hlt e1 e2
      go_wp2
      go_region
      go_wp2
      go_roundw
      case rel =>
        exact ⟨i + 1, (j : Int) - 1, _, by go_num, rfl, Lib.hid (by have := HJ.out; omega), Lib.hid (by have := HJ.out; omega), b1, HST, bb⟩
      case measure => simp [intOf]; omega
    · have hnl : ¬ (i : Int) < z := by have := hz.out; omega
      have HL := Lib.hid hlt
      clear hlt
      go_wp2
      go_end0
      refine ⟨rfl, cs', hblk.out, fun j hj => ?_, hbw⟩
      rw [hcs.out j hj]
      unfold swF
      have h1 := HL.out
      have h2 := hi.out
      by_cases h3 : j < i ∨ n - i ≤ j
      · rw [if_pos h3]
      · rw [if_neg h3]
        congr 4; omega
end Go.Proofs.YtajcapliokblfaaDoor
set_option linter.unusedSimpArgs false
set_option linter.unusedVariables false
namespace Go.Proofs.YtajcapliokblfaaDoor
open Go Go.RowKit Nt

/-- A box of three cells. -/
def Bx3 (w : World) (B : Nat) (c : Value × Value × Value) : Prop := ∃ T : TypeId, Blk w B T #[c.1, c.2.1, c.2.2]
theorem Bx3.facts {w : World} {B : Nat} {c : Value × Value × Value} (h : Bx3 w B c) : B < w.heap.size ∧ w.cell? ⟨B, 0, none⟩ = some c.1 ∧ w.cell? ⟨B, 1, none⟩ = some c.2.1 ∧ w.cell? ⟨B, 2, none⟩ = some c.2.2 ∧ w.frozen? ⟨B, 0, none⟩ = false ∧ w.frozen? ⟨B, 1, none⟩ = false ∧ w.frozen? ⟨B, 2, none⟩ = false := by
  obtain ⟨T, h⟩ := h
  exact ⟨h.lt, by rw [h.cell]; rfl, by rw [h.cell]; rfl, by rw [h.cell]; rfl, h.frozen 0, h.frozen 1, h.frozen 2⟩
theorem Bx3.step {w w' : World} {B : Nat} {c : Value × Value × Value} (h : Bx3 w B c) (hb : Below w.heap.size w w') : Bx3 w' B c := by
  obtain ⟨T, h⟩ := h; exact ⟨T, h.below hb h.lt⟩
theorem Bx3.more {w : World} {B : Nat} {c : Value × Value × Value} (h : Bx3 w B c) (o : Obj) : Bx3 (w.alloc o) B c := by
  obtain ⟨T, h⟩ := h; exact ⟨T, h.alloc o⟩
theorem Bx3.new (w : World) (a b c : Value) (T : TypeId) : Bx3 (w.alloc (.cells #[a, b, c] T)) w.heap.size (a, b, c) := ⟨T, Blk.new w _ _⟩
theorem Bx3.put {w : World} {B : Nat} {c : Value × Value × Value} (h : Bx3 w B c) (x y z : Value) : Bx3 (((w.setCell ⟨B, 0, none⟩ x).setCell ⟨B, 1, none⟩ y).setCell ⟨B, 2, none⟩ z) B (x, y, z) := by
  obtain ⟨T, h⟩ := h
  exact ⟨T, by simpa using ((h.set_ 0 x).set_ 1 y).set_ 2 z⟩
theorem Bx3.put0 {w : World} {B : Nat} {c : Value × Value × Value} (h : Bx3 w B c) (x : Value) : Bx3 (w.setCell ⟨B, 0, none⟩ x) B (x, c.2.1, c.2.2) := by
  obtain ⟨T, h⟩ := h
  exact ⟨T, by simpa using h.set_ 0 x⟩
theorem Bx3.far {w : World} {B C : Nat} {c : Value × Value × Value} (h : Bx3 w B c) (hne : B ≠ C) (x y z : Value) : Bx3 (((w.setCell ⟨C, 0, none⟩ x).setCell ⟨C, 1, none⟩ y).setCell ⟨C, 2, none⟩ z) B c := by
  obtain ⟨T, h⟩ := h
  exact ⟨T, ((h.far (p := ⟨C, 0, none⟩) hne x).far (p := ⟨C, 1, none⟩) hne y).far (p := ⟨C, 2, none⟩) hne z⟩
theorem below_put3 {n : Nat} {w W : World} {A : Nat} (hb : Below n w W) (hA : n ≤ A) (a' b' c' : Value) : Below n w (((W.setCell ⟨A, 0, none⟩ a').setCell ⟨A, 1, none⟩ b').setCell ⟨A, 2, none⟩ c') :=
  ((hb.setCell (p := ⟨A, 0, none⟩) hA a').setCell (p := ⟨A, 1, none⟩) hA b').setCell (p := ⟨A, 2, none⟩) hA c'
abbrev C3 := Value × Value × Value
/-- From w on: boxes that stay, and behind them one for what is answered. -/
def BR (w : World) (l : List C3) (W : World) : Prop := Below w.heap.size w W ∧ (∀ i c, l[i]? = some c → Bx3 W (w.heap.size + i) c) ∧ ∃ (b : Bool) (y z : Value), Bx3 W (w.heap.size + l.length) (.bool b, y, z)
theorem BR.step {w : World} {l : List C3} {W W' : World} (h : BR w l W) (hb : Below W.heap.size W W') : BR w l W' := by
  obtain ⟨b, y, z, hc⟩ := h.2.2
  exact ⟨below_chain h.1 hb, fun i c hi => (h.2.1 i c hi).step hb, b, y, z, hc.step hb⟩
theorem BR.more {w : World} {l : List C3} {W : World} (h : BR w l W) (o : Obj) : BR w l (W.alloc o) := h.step ((Below.refl _ _).alloc (Nat.le_refl _) _)
theorem BR.drawn {w : World} {l : List C3} {W : World} (h : BR w l W) (n : Nat) : BR w l (W.drewN n) := h.step (below_drewN (Below.refl _ _) n)
theorem BR.drew {w : World} {l : List C3} {W : World} (h : BR w l W) : BR w l W.drew := h.step (Below.refl _ _).drew
theorem BR.put {w : World} {l : List C3} {W : World} (h : BR w l W) {n : Nat} (hn : l.length = n) (x : Bool) (y z : Value) : BR w l (((W.setCell ⟨w.heap.size + n, 0, none⟩ (.bool x)).setCell ⟨w.heap.size + n, 1, none⟩ y).setCell ⟨w.heap.size + n, 2, none⟩ z) := by
  subst hn
  obtain ⟨b, y', z', hc⟩ := h.2.2
  refine ⟨below_put3 h.1 (by omega) _ _ _, fun i c hi => (h.2.1 i c hi).far ?_ _ _ _, _, _, _, hc.put (.bool x) y z⟩
  have := (List.getElem?_eq_some_iff.1 hi).1
  omega
/-- A row of words doesn't lie in a box that begins with a bool. -/
theorem Row.put3 {W : World} {B : Nat} {A : Option Addr} {n L C : Nat} (hr : Row W B A n L) {b : Bool} (hc : W.cell? ⟨C, 0, none⟩ = some (.bool b)) (x y z : Value) : Row (((W.setCell ⟨C, 0, none⟩ x).setCell ⟨C, 1, none⟩ y).setCell ⟨C, 2, none⟩ z) B A n L := fun hL => by
  obtain ⟨g, e, hg, hcell⟩ := hr hL
  refine ⟨g, e, hg, fun j hj => ?_⟩
  have hne : g ≠ C := fun c => by
    have := hcell 0 hL
    rw [c, hc] at this
    cases this
  have h1 : ∀ (U : World) (i : Nat) (v : Value), (U.setCell ⟨C, i, none⟩ v).cell? ⟨g, j, none⟩ = U.cell? ⟨g, j, none⟩ := fun U i v => by
    unfold World.cell?
    rw [show (U.setCell ⟨C, i, none⟩ v).heap[g]? = U.heap[g]? from by simp [World.setCell, Array.getElem?_modify, Ne.symm hne]]
  rw [h1, h1, h1]
  exact hcell j hj
theorem BR.row {w : World} {l : List C3} {W : World} (h : BR w l W) {n : Nat} (hn : l.length = n) {B : Nat} {A : Option Addr} {m L : Nat} (hr : Row W B A m L) (x y z : Value) : Row (((W.setCell ⟨w.heap.size + n, 0, none⟩ x).setCell ⟨w.heap.size + n, 1, none⟩ y).setCell ⟨w.heap.size + n, 2, none⟩ z) B A m L := by
  subst hn
  obtain ⟨b, y', z', hc⟩ := h.2.2
  exact hr.put3 hc.facts.2.1 x y z
theorem BR.box {w : World} {l : List C3} {W : World} (h : BR w l W) (i : Nat) (c : C3) (hi : l[i]? = some c) : w.heap.size + i < W.heap.size ∧ W.cell? ⟨w.heap.size + i, 0, none⟩ = some c.1 ∧ W.cell? ⟨w.heap.size + i, 1, none⟩ = some c.2.1 ∧ W.cell? ⟨w.heap.size + i, 2, none⟩ = some c.2.2 ∧ W.frozen? ⟨w.heap.size + i, 0, none⟩ = false ∧ W.frozen? ⟨w.heap.size + i, 1, none⟩ = false ∧ W.frozen? ⟨w.heap.size + i, 2, none⟩ = false := (h.2.1 i c hi).facts
/-- What stands in a cell. -/
@[irreducible] def celAt (W : World) (B i : Nat) : Value := (W.cell? ⟨B, i, none⟩).getD undef
theorem celAt_eq {W : World} {B i : Nat} {v : Value} (h : W.cell? ⟨B, i, none⟩ = some v) : W.cell? ⟨B, i, none⟩ = some (celAt W B i) := by unfold celAt; rw [h]; rfl
theorem BR.res {w : World} {l : List C3} {W : World} (h : BR w l W) {n : Nat} (hn : l.length = n) : w.heap.size + n < W.heap.size ∧ W.cell? ⟨w.heap.size + n, 0, none⟩ = some (celAt W (w.heap.size + n) 0) ∧ W.cell? ⟨w.heap.size + n, 1, none⟩ = some (celAt W (w.heap.size + n) 1) ∧ W.cell? ⟨w.heap.size + n, 2, none⟩ = some (celAt W (w.heap.size + n) 2) ∧ W.frozen? ⟨w.heap.size + n, 0, none⟩ = false ∧ W.frozen? ⟨w.heap.size + n, 1, none⟩ = false ∧ W.frozen? ⟨w.heap.size + n, 2, none⟩ = false := by
  subst hn
  obtain ⟨b, y, z, hc⟩ := h.2.2
  obtain ⟨r0, r1, r2, r3, r4, r5, r6⟩ := hc.facts
  exact ⟨r0, celAt_eq r1, celAt_eq r2, celAt_eq r3, r4, r5, r6⟩
theorem BR.res0 {w : World} {W : World} (h : BR w [] W) : w.heap.size < W.heap.size ∧ W.cell? ⟨w.heap.size, 0, none⟩ = some (celAt W w.heap.size 0) ∧ W.cell? ⟨w.heap.size, 1, none⟩ = some (celAt W w.heap.size 1) ∧ W.cell? ⟨w.heap.size, 2, none⟩ = some (celAt W w.heap.size 2) ∧ W.frozen? ⟨w.heap.size, 0, none⟩ = false ∧ W.frozen? ⟨w.heap.size, 1, none⟩ = false ∧ W.frozen? ⟨w.heap.size, 2, none⟩ = false := h.res (n := 0) rfl
theorem BR.start0 (w : World) (x : Bool) (y z : Value) (U : TypeId) : BR w [] (w.alloc (.cells #[.bool x, y, z] U)) := by
  refine ⟨(Below.refl _ _).alloc (Nat.le_refl _) _, fun i d hi => ?_, x, y, z, Bx3.new w (.bool x) y z U⟩
  simp at hi
theorem BR.start1 (w : World) (a b c : Value) (x : Bool) (y z : Value) (T U : TypeId) : BR w [(a, b, c)] ((w.alloc (.cells #[a, b, c] T)).alloc (.cells #[.bool x, y, z] U)) := by
  refine ⟨((Below.refl _ _).alloc (Nat.le_refl _) _).alloc (by simp) _, fun i d hi => ?_, x, y, z, by have := Bx3.new (w.alloc (.cells #[a, b, c] T)) (.bool x) y z U; simpa using this⟩
  match i, hi with
  | 0, hi => cases hi; exact (Bx3.new w a b c T).more _
  | n + 1, hi => simp at hi
theorem BR.start2 (w : World) (a b c a' b' c' : Value) (x : Bool) (y z : Value) (T T' U : TypeId) : BR w [(a, b, c), (a', b', c')] (((w.alloc (.cells #[a, b, c] T)).alloc (.cells #[a', b', c'] T')).alloc (.cells #[.bool x, y, z] U)) := by
  refine ⟨(((Below.refl _ _).alloc (Nat.le_refl _) _).alloc (by simp) _).alloc (by simp; omega) _, fun i d hi => ?_, x, y, z, by have := Bx3.new ((w.alloc (.cells #[a, b, c] T)).alloc (.cells #[a', b', c'] T')) (.bool x) y z U; simpa using this⟩
  match i, hi with
  | 0, hi => cases hi; exact ((Bx3.new w a b c T).more _).more _
  | 1, hi => cases hi; have := (Bx3.new (w.alloc (.cells #[a, b, c] T)) a' b' c' T').more (.cells #[.bool x, y, z] U); simpa using this
  | n + 2, hi => simp at hi
/-- Two boxes without one for the answer: the second serves as the last. -/
theorem BR.pair (w : World) (a b c : Value) (a' : Bool) (b' c' : Value) (T T' : TypeId) : BR w [(a, b, c)] ((w.alloc (.cells #[a, b, c] T)).alloc (.cells #[.bool a', b', c'] T')) := BR.start1 w a b c a' b' c' T T'
/-- The second box's first cell is written. -/
theorem BR.put0 {w : World} {a : C3} {x y z : Value} {W : World} (h : BR w [a, (x, y, z)] W) (x' : Value) : BR w [a, (x', y, z)] (W.setCell ⟨w.heap.size + 1, 0, none⟩ x') := by
  obtain ⟨b, u, v, T, hc⟩ := h.2.2
  refine ⟨h.1.setCell (p := ⟨w.heap.size + 1, 0, none⟩) (by simp) x', fun i c hi => ?_, b, u, v, T, hc.far (p := ⟨w.heap.size + 1, 0, none⟩) (by simp) x'⟩
  match i, hi with
  | 0, hi => cases hi; obtain ⟨T', h0⟩ := h.2.1 0 _ rfl; exact ⟨T', h0.far (p := ⟨w.heap.size + 1, 0, none⟩) (by simp) x'⟩
  | 1, hi => cases hi; exact (h.2.1 1 _ rfl).put0 x'
  | n + 2, hi => simp at hi
end Go.Proofs.YtajcapliokblfaaDoor
set_option linter.unusedSimpArgs false
set_option linter.unusedVariables false
namespace Go.Proofs.YtajcapliokblfaaDoor
open Go Go.RowKit Nt

/-- A Ratio's value. -/
@[reducible] noncomputable def qv (q : Rat) : Value := .agg #[.bool (qG q), .string (natS (qN q)), .string (natS (qD q))]
def qfits (q : Rat) : Prop := fits (qN q) ∧ fits (qD q)
open Classical in
@[irreducible] noncomputable def rsG (q : Rat) : Bool := if qfits q then qG q else false
open Classical in
@[irreducible] noncomputable def rsN (q : Rat) : ByteArray := if qfits q then natS (qN q) else ⟨#[]⟩
open Classical in
@[irreducible] noncomputable def rsD (q : Rat) : ByteArray := if qfits q then natS (qD q) else ⟨#[]⟩
open Classical in
@[irreducible] noncomputable def rsE (q : Rat) : Int := if qfits q then 0 else 4
theorem rs_ok {q : Rat} (h : qfits q) : rsG q = qG q ∧ rsN q = natS (qN q) ∧ rsD q = natS (qD q) ∧ rsE q = 0 := by
  unfold rsG rsN rsD rsE; rw [if_pos h, if_pos h, if_pos h, if_pos h]; exact ⟨rfl, rfl, rfl, rfl⟩
theorem rs_no {q : Rat} (h : ¬ qfits q) : rsG q = false ∧ rsN q = ⟨#[]⟩ ∧ rsD q = ⟨#[]⟩ ∧ rsE q = 4 := by
  unfold rsG rsN rsD rsE; rw [if_neg h, if_neg h, if_neg h, if_neg h]; exact ⟨rfl, rfl, rfl, rfl⟩
/-- What lowest gives. -/
def LwPost (q : Rat) (w : World) (e : Ending) (w' : World) : Prop := e = .returned (.tuple #[.agg #[.bool (rsG q), .string (rsN q), .string (rsD q)], .int .i64 (rsE q)]) ∧ Below w.heap.size w w'
/-- What a function that makes a fraction leaves. -/
def FrPost (g : Bool) (n d : Nat) (w : World) (e : Ending) (w' : World) : Prop :=
  ∃ A c A' c', e = .returned (.agg #[.bool g, .slice A (nd W n) c, .slice A' (nd W d) c']) ∧ nd W n ≤ c ∧ nd W d ≤ c' ∧ Row w' w'.heap.size A n (nd W n) ∧ Row w' w'.heap.size A' d (nd W d) ∧ Below w.heap.size w w'
theorem bits_131072'' {n : Nat} : ((131072 : Int) < (nd 2 n : Int)) ↔ ¬ fits n := by
  have := bits_le n 16384
  unfold fits
  omega
theorem Pwords_c (n : Nat) (w : World) (hn : fits n) :
    Calls Tryd.prog 40 #[.string (natS n)] w (NumPost n w) := by
  have hz : (natS n).size ≤ 1000000000 := by rw [natS_size]; unfold fits at hn; omega
  have hr := Read_c (natS n) w hz
  rw [bytesN_natS] at hr
  have HR := Lib.hid hr
  clear hr
  go_enter Tryd.func40, Tryd.ntmps40
  go_wp2_with fail
  refine HR.out.mono ?_
  intro e w' hp
  obtain ⟨A, c, rfl, hc, hrow, hb⟩ := hp.get
  go_wp2
  go_ret
  exact NumPost.mk hc hrow hb
set_option maxRecDepth 100000 in
set_option maxHeartbeats 1000000 in
theorem Popen_c (g : Bool) (n d : Nat) (w : World) (hn : fits n) (hd : fits d) :
    Calls Tryd.prog 26 #[.agg #[.bool g, .string (natS n), .string (natS d)]] w (FrPost g n d w) := by
  have K1 := Lib.hid (fun w => Pwords_c n w hn)
  have K2 := Lib.hid (fun w => Pwords_c d w hd)
  have T0 := BR.start1 w (.bool g) (.string (natS n)) (.string (natS d)) false (.slice none 0 0) (.slice none 0 0) 25 47
  have L0 : ∀ W, BR w [(.bool g, .string (natS n), .string (natS d))] W → W.cell? ⟨w.heap.size, 0, none⟩ = some (.bool g) := fun W h => (h.box 0 _ rfl).2.1
  have L1 : ∀ W, BR w [(.bool g, .string (natS n), .string (natS d))] W → W.cell? ⟨w.heap.size, 1, none⟩ = some (.string (natS n)) := fun W h => (h.box 0 _ rfl).2.2.1
  have L2 : ∀ W, BR w [(.bool g, .string (natS n), .string (natS d))] W → W.cell? ⟨w.heap.size, 2, none⟩ = some (.string (natS d)) := fun W h => (h.box 0 _ rfl).2.2.2.1
  have M1 := fun W (h : BR w [(.bool g, .string (natS n), .string (natS d))] W) => (h.res (n := 1) rfl).2.1
  have M2 := fun W (h : BR w [(.bool g, .string (natS n), .string (natS d))] W) => (h.res (n := 1) rfl).2.2.1
  have M3 := fun W (h : BR w [(.bool g, .string (natS n), .string (natS d))] W) => (h.res (n := 1) rfl).2.2.2.1
  have M4 := fun W (h : BR w [(.bool g, .string (natS n), .string (natS d))] W) => (h.res (n := 1) rfl).2.2.2.2.1
  have M5 := fun W (h : BR w [(.bool g, .string (natS n), .string (natS d))] W) => (h.res (n := 1) rfl).2.2.2.2.2.1
  have M6 := fun W (h : BR w [(.bool g, .string (natS n), .string (natS d))] W) => (h.res (n := 1) rfl).2.2.2.2.2.2
  clear hn hd
  go_enter Tryd.func26, Tryd.ntmps26
  go_wp2_with fail
  go_region_held3 (BR w [(.bool g, .string (natS n), .string (natS d))]) (first | assumption | exact BR.step (by assumption) (by assumption) | exact BR.put (by assumption) rfl _ _ _ | exact BR.drew (by assumption) | exact BR.drawn (by assumption) _)
    (first
      | (go_at_call 40; (with_reducible refine (K1.out _).mono ?_); rintro e wa hp; obtain ⟨A1, c1, rfl, hc1, hr1, hb1⟩ := hp.get; clear hp)
      | (go_at_call 40; (with_reducible refine (K2.out _).mono ?_); rintro e wb hp; obtain ⟨A2, c2, rfl, hc2, hr2, hb2⟩ := hp.get; clear hp; have HSV := Lib.hid (BR.step (w := w) (by assumption) hb2)))
  have HR1 := Lib.hid (HSV.out.row (n := 1) rfl ((hr1.below hb2).more hb2.size))
  have HR2 := Lib.hid (HSV.out.row (n := 1) rfl hr2)
  obtain ⟨r0, r1, r2, r3, r4, r5, r6⟩ := HSV.out.res (n := 1) rfl
  have hfin := below_put3 HSV.out.1 (show w.heap.size ≤ w.heap.size + 1 by omega)
  clear L0 L1 L2 M1 M2 M3 M4 M5 M6 hr1 hr2 hb1 hb2
  go_wp2_with fail
  refine bodyPost_ret (v := .agg #[.bool g, .slice A1 (nd W n) c1, .slice A2 (nd W d) c2]) (by simp [results, Tryd.results26, go_sem, r0, r1, r2, r3]) rfl ⟨A1, c1, A2, c2, rfl, hc1, hc2, ?_, ?_, hfin _ _ _⟩
  · simpa using HR1.out _ _ _
  · simpa using HR2.out _ _ _
end Go.Proofs.YtajcapliokblfaaDoor
set_option linter.unusedSimpArgs false
set_option linter.unusedVariables false
namespace Go.Proofs.YtajcapliokblfaaDoor
open Go Go.RowKit Nt

set_option maxRecDepth 100000 in
set_option maxHeartbeats 1000000 in
theorem Fmul_c (g h : Bool) (n d m e : Nat) (A A' B B' : Option Addr) (c c' b b' : Nat) (w : World) (h1 : nd W n ≤ 20000) (h2 : nd W d ≤ 20000) (h3 : nd W m ≤ 20000) (h4 : nd W e ≤ 20000) (r1 : Row w w.heap.size A n (nd W n)) (r2 : Row w w.heap.size A' d (nd W d)) (r3 : Row w w.heap.size B m (nd W m)) (r4 : Row w w.heap.size B' e (nd W e)) :
    Calls Tryd.prog 23 #[.agg #[.bool g, .slice A (nd W n) c, .slice A' (nd W d) c'], .agg #[.bool h, .slice B (nd W m) b, .slice B' (nd W e) b']] w (FrPost (g != h) (n * m) (d * e) w) := by
  obtain ⟨bl, hbl⟩ : ∃ bl : List C3, bl = [(.bool g, .slice A (nd W n) c, .slice A' (nd W d) c'), (.bool h, .slice B (nd W m) b, .slice B' (nd W e) b')] := ⟨_, rfl⟩
  have hbn : bl.length = 2 := by rw [hbl]; rfl
  have T0 := BR.start2 w (.bool g) (.slice A (nd W n) c) (.slice A' (nd W d) c') (.bool h) (.slice B (nd W m) b) (.slice B' (nd W e) b') false (.slice none 0 0) (.slice none 0 0) 47 47 47
  rw [← hbl] at T0
  have L0 : ∀ U, BR w bl U → U.cell? ⟨w.heap.size, 0, none⟩ = some (.bool g) := fun U hU => (hU.box 0 (.bool g, .slice A (nd W n) c, .slice A' (nd W d) c') (by rw [hbl]; rfl)).2.1
  have L1 : ∀ U, BR w bl U → U.cell? ⟨w.heap.size, 1, none⟩ = some (.slice A (nd W n) c) := fun U hU => (hU.box 0 (.bool g, .slice A (nd W n) c, .slice A' (nd W d) c') (by rw [hbl]; rfl)).2.2.1
  have L2 : ∀ U, BR w bl U → U.cell? ⟨w.heap.size, 2, none⟩ = some (.slice A' (nd W d) c') := fun U hU => (hU.box 0 (.bool g, .slice A (nd W n) c, .slice A' (nd W d) c') (by rw [hbl]; rfl)).2.2.2.1
  have L3 : ∀ U, BR w bl U → U.cell? ⟨w.heap.size + 1, 0, none⟩ = some (.bool h) := fun U hU => (hU.box 1 (.bool h, .slice B (nd W m) b, .slice B' (nd W e) b') (by rw [hbl]; rfl)).2.1
  have L4 : ∀ U, BR w bl U → U.cell? ⟨w.heap.size + 1, 1, none⟩ = some (.slice B (nd W m) b) := fun U hU => (hU.box 1 (.bool h, .slice B (nd W m) b, .slice B' (nd W e) b') (by rw [hbl]; rfl)).2.2.1
  have L5 : ∀ U, BR w bl U → U.cell? ⟨w.heap.size + 1, 2, none⟩ = some (.slice B' (nd W e) b') := fun U hU => (hU.box 1 (.bool h, .slice B (nd W m) b, .slice B' (nd W e) b') (by rw [hbl]; rfl)).2.2.2.1
  have M1 := fun U (hU : BR w bl U) => (hU.res (n := 2) hbn).2.1
  have M2 := fun U (hU : BR w bl U) => (hU.res (n := 2) hbn).2.2.1
  have M3 := fun U (hU : BR w bl U) => (hU.res (n := 2) hbn).2.2.2.1
  have M4 := fun U (hU : BR w bl U) => (hU.res (n := 2) hbn).2.2.2.2.1
  have M5 := fun U (hU : BR w bl U) => (hU.res (n := 2) hbn).2.2.2.2.2.1
  have M6 := fun U (hU : BR w bl U) => (hU.res (n := 2) hbn).2.2.2.2.2.2
  clear hbl
  have K1 : Hid (∀ W', BR w bl W' → Calls Tryd.prog 42 #[.slice A (nd W n) c, .slice B (nd W m) b] W' (NumPost (n * m) W')) := Lib.hid fun W' hT => Mul_c A B c b n m W'.heap.size W' (by omega) ((r1.below hT.1).more hT.1.size) ((r3.below hT.1).more hT.1.size) (Nat.le_refl _)
  have K2 : Hid (∀ W', BR w bl W' → Calls Tryd.prog 42 #[.slice A' (nd W d) c', .slice B' (nd W e) b'] W' (NumPost (d * e) W')) := Lib.hid fun W' hT => Mul_c A' B' c' b' d e W'.heap.size W' (by omega) ((r2.below hT.1).more hT.1.size) ((r4.below hT.1).more hT.1.size) (Nat.le_refl _)
  clear r1 r2 r3 r4
  go_enter Tryd.func23, Tryd.ntmps23
  go_wp2_with fail
  go_region_held3 (BR w bl) (first | assumption | exact BR.step (by assumption) (by assumption) | exact BR.put (by assumption) hbn _ _ _ | exact BR.drew (by assumption) | exact BR.drawn (by assumption) _)
    (first
      | (go_at_call 42; (with_reducible refine (K1.out _ (by assumption)).mono ?_); rintro ee wa hp; obtain ⟨A1, c1, rfl, hc1, hr1, hb1⟩ := hp.get; clear hp)
      | (go_at_call 42; (with_reducible refine (K2.out _ (by assumption)).mono ?_); rintro ee wb hp; obtain ⟨A2, c2, rfl, hc2, hr2, hb2⟩ := hp.get; clear hp; have HSV := Lib.hid (BR.step (w := w) (by assumption) hb2)))
  have hr1' := (hr1.below hb2).more hb2.size
  clear hr1 K1 K2
  have HR1 := Lib.hid (HSV.out.row (n := 2) hbn hr1')
  have HR2 := Lib.hid (HSV.out.row (n := 2) hbn hr2)
  obtain ⟨q0, q1, q2, q3, q4, q5, q6⟩ := HSV.out.res (n := 2) hbn
  have hfin := below_put3 HSV.out.1 (show w.heap.size ≤ w.heap.size + 2 by omega)
  clear L0 L1 L2 L3 L4 L5 M1 M2 M3 M4 M5 M6 T0
  try clear T2
  try clear p0 p1 p2 p3 p4 p5 p6
  try clear s0 s1 s2 s3 s4 s5 s6
  go_wp2_with fail
  refine bodyPost_ret (v := .agg #[.bool (!(g == h)), .slice A1 (nd W (n * m)) c1, .slice A2 (nd W (d * e)) c2]) (by simp [results, Tryd.results23, go_sem, q0, q1, q2, q3]) rfl ⟨A1, c1, A2, c2, rfl, hc1, hc2, ?_, ?_, hfin _ _ _⟩
  · simpa using HR1.out _ _ _
  · simpa using HR2.out _ _ _
/-- The sum of two fractions. -/
def adPost (g : Bool) (x : Nat) (h : Bool) (y D : Nat) (w : World) (e : Ending) (w' : World) : Prop := FrPost (adG g x h y) (adN g x h y) D w e w'
theorem ad_same {g h : Bool} (x y : Nat) (hg : g = h) : adG g x h y = g ∧ adN g x h y = x + y := by unfold adG adN; rw [if_pos hg, if_pos hg]; exact ⟨rfl, rfl⟩
theorem ad_less {g h : Bool} {x y : Nat} (hg : ¬ g = h) (hl : x < y) : adG g x h y = h ∧ adN g x h y = y - x := by unfold adG adN; rw [if_neg hg, if_neg hg, if_pos hl, if_pos hl]; exact ⟨rfl, rfl⟩
theorem ad_more {g h : Bool} {x y : Nat} (hg : ¬ g = h) (hl : ¬ x < y) : adG g x h y = g ∧ adN g x h y = x - y := by unfold adG adN; rw [if_neg hg, if_neg hg, if_neg hl, if_neg hl]; exact ⟨rfl, rfl⟩
theorem nd_mul_le {a b k m : Nat} (ha : nd W a ≤ k) (hb : nd W b ≤ m) : nd W (a * b) ≤ k + m := Nat.le_trans (mul_words a b) (Nat.add_le_add ha hb)
set_option maxRecDepth 100000 in
set_option maxHeartbeats 2000000 in
theorem Fadd_c (g h : Bool) (n d m e : Nat) (A A' B B' : Option Addr) (c c' b b' : Nat) (w : World) (h1 : nd W n ≤ 20000) (h2 : nd W d ≤ 20000) (h3 : nd W m ≤ 20000) (h4 : nd W e ≤ 20000) (r1 : Row w w.heap.size A n (nd W n)) (r2 : Row w w.heap.size A' d (nd W d)) (r3 : Row w w.heap.size B m (nd W m)) (r4 : Row w w.heap.size B' e (nd W e)) :
    Calls Tryd.prog 22 #[.agg #[.bool g, .slice A (nd W n) c, .slice A' (nd W d) c'], .agg #[.bool h, .slice B (nd W m) b, .slice B' (nd W e) b']] w (FrPost (adG g (n * e) h (m * d)) (adN g (n * e) h (m * d)) (d * e) w) := by
  obtain ⟨bl, hbl⟩ : ∃ bl : List C3, bl = [(.bool g, .slice A (nd W n) c, .slice A' (nd W d) c'), (.bool h, .slice B (nd W m) b, .slice B' (nd W e) b')] := ⟨_, rfl⟩
  have hbn : bl.length = 2 := by rw [hbl]; rfl
  have T0 := BR.start2 w (.bool g) (.slice A (nd W n) c) (.slice A' (nd W d) c') (.bool h) (.slice B (nd W m) b) (.slice B' (nd W e) b') false (.slice none 0 0) (.slice none 0 0) 47 47 47
  rw [← hbl] at T0
  have L0 : ∀ U, BR w bl U → U.cell? ⟨w.heap.size, 0, none⟩ = some (.bool g) := fun U hU => (hU.box 0 (.bool g, .slice A (nd W n) c, .slice A' (nd W d) c') (by rw [hbl]; rfl)).2.1
  have L1 : ∀ U, BR w bl U → U.cell? ⟨w.heap.size, 1, none⟩ = some (.slice A (nd W n) c) := fun U hU => (hU.box 0 (.bool g, .slice A (nd W n) c, .slice A' (nd W d) c') (by rw [hbl]; rfl)).2.2.1
  have L2 : ∀ U, BR w bl U → U.cell? ⟨w.heap.size, 2, none⟩ = some (.slice A' (nd W d) c') := fun U hU => (hU.box 0 (.bool g, .slice A (nd W n) c, .slice A' (nd W d) c') (by rw [hbl]; rfl)).2.2.2.1
  have L3 : ∀ U, BR w bl U → U.cell? ⟨w.heap.size + 1, 0, none⟩ = some (.bool h) := fun U hU => (hU.box 1 (.bool h, .slice B (nd W m) b, .slice B' (nd W e) b') (by rw [hbl]; rfl)).2.1
  have L4 : ∀ U, BR w bl U → U.cell? ⟨w.heap.size + 1, 1, none⟩ = some (.slice B (nd W m) b) := fun U hU => (hU.box 1 (.bool h, .slice B (nd W m) b, .slice B' (nd W e) b') (by rw [hbl]; rfl)).2.2.1
  have L5 : ∀ U, BR w bl U → U.cell? ⟨w.heap.size + 1, 2, none⟩ = some (.slice B' (nd W e) b') := fun U hU => (hU.box 1 (.bool h, .slice B (nd W m) b, .slice B' (nd W e) b') (by rw [hbl]; rfl)).2.2.2.1
  have M1 := fun U (hU : BR w bl U) => (hU.res (n := 2) hbn).2.1
  have M2 := fun U (hU : BR w bl U) => (hU.res (n := 2) hbn).2.2.1
  have M3 := fun U (hU : BR w bl U) => (hU.res (n := 2) hbn).2.2.2.1
  have M4 := fun U (hU : BR w bl U) => (hU.res (n := 2) hbn).2.2.2.2.1
  have M5 := fun U (hU : BR w bl U) => (hU.res (n := 2) hbn).2.2.2.2.2.1
  have M6 := fun U (hU : BR w bl U) => (hU.res (n := 2) hbn).2.2.2.2.2.2
  have HBL := Lib.hid hbl
  clear hbl
  have K1 : Hid (∀ W', BR w bl W' → Calls Tryd.prog 42 #[.slice A (nd W n) c, .slice B' (nd W e) b'] W' (NumPost (n * e) W')) := Lib.hid fun W' hT => Mul_c A B' c b' n e W'.heap.size W' (by omega) ((r1.below hT.1).more hT.1.size) ((r4.below hT.1).more hT.1.size) (Nat.le_refl _)
  have K2 : Hid (∀ W', BR w bl W' → Calls Tryd.prog 42 #[.slice B (nd W m) b, .slice A' (nd W d) c'] W' (NumPost (m * d) W')) := Lib.hid fun W' hT => Mul_c B A' b c' m d W'.heap.size W' (by omega) ((r3.below hT.1).more hT.1.size) ((r2.below hT.1).more hT.1.size) (Nat.le_refl _)
  have K3 : Hid (∀ W', BR w bl W' → Calls Tryd.prog 42 #[.slice A' (nd W d) c', .slice B' (nd W e) b'] W' (NumPost (d * e) W')) := Lib.hid fun W' hT => Mul_c A' B' c' b' d e W'.heap.size W' (by omega) ((r2.below hT.1).more hT.1.size) ((r4.below hT.1).more hT.1.size) (Nat.le_refl _)
  obtain ⟨X, hX⟩ : ∃ X, X = n * e := ⟨_, rfl⟩
  obtain ⟨Y, hY⟩ : ∃ Y, Y = m * d := ⟨_, rfl⟩
  obtain ⟨D, hD⟩ : ∃ D, D = d * e := ⟨_, rfl⟩
  have hx1 : nd W X ≤ 40000 := by rw [hX]; exact nd_mul_le h1 h4
  have hy1 : nd W Y ≤ 40000 := by rw [hY]; exact nd_mul_le h3 h2
  rw [← hX, ← hY, ← hD]
  rw [← hX] at K1
  rw [← hY] at K2
  rw [← hD] at K3
  clear r1 r2 r3 r4 h1 h2 h3 h4 hX hY hD
  go_enter Tryd.func22, Tryd.ntmps22
  go_wp2_with fail
  go_region_held3 (BR w bl) (first | assumption | exact BR.step (by assumption) (by assumption) | exact BR.put (by assumption) hbn _ _ _ | exact BR.drew (by assumption) | exact BR.drawn (by assumption) _)
    (first
      | (go_at_call 42; (with_reducible refine (K1.out _ (by assumption)).mono ?_); rintro ee wa hp; obtain ⟨A1, c1, rfl, hc1, hr1, hb1⟩ := hp.get; clear hp)
      | (go_at_call 42; (with_reducible refine (K2.out _ (by assumption)).mono ?_); rintro ee wb hp; obtain ⟨A2, c2, rfl, hc2, hr2, hb2⟩ := hp.get; clear hp))
  rename_i hHeld
  have hr1' := (hr1.below hb2).more hb2.size
  have T2 := hHeld
  have HR1 := Lib.hid hr1'
  have HR2 := Lib.hid hr2
  clear hHeld hr1 hr1' hr2 hb1 hb2 K1 K2
  obtain ⟨p0, p1, p2, p3, p4, p5, p6⟩ := T2.box 0 (.bool g, .slice A (nd W n) c, .slice A' (nd W d) c') (by rw [HBL.out]; rfl)
  obtain ⟨s0, s1, s2, s3, s4, s5, s6⟩ := T2.box 1 (.bool h, .slice B (nd W m) b, .slice B' (nd W e) b') (by rw [HBL.out]; rfl)
  go_wp2_with fail
  refine (K3.out _ T2).mono ?_
  rintro ee wc hp
  obtain ⟨A3, c3, rfl, hc3, hr3, hb3⟩ := hp.get
  replace T2 := T2.step hb3
  have HR1' := Lib.hid ((HR1.out.below hb3).more hb3.size)
  have HR2' := Lib.hid ((HR2.out.below hb3).more hb3.size)
  have HR3 := Lib.hid hr3
  clear hp hr3 hb3 HR1 HR2 p0 p1 p2 p3 p4 p5 p6 s0 s1 s2 s3 s4 s5 s6 K3
  obtain ⟨p0, p1, p2, p3, p4, p5, p6⟩ := T2.box 0 (.bool g, .slice A (nd W n) c, .slice A' (nd W d) c') (by rw [HBL.out]; rfl)
  obtain ⟨s0, s1, s2, s3, s4, s5, s6⟩ := T2.box 1 (.bool h, .slice B (nd W m) b, .slice B' (nd W e) b') (by rw [HBL.out]; rfl)
  by_cases hg : g = h
  case' pos =>
    have hE := Lib.hid (ad_same X Y hg)
    have hgb : (g == h) = true := by rw [hg]; exact beq_self_eq_true h
    clear hg
    go_wp2_with fail
    have T3 : BR w bl (wc).drew := T2.drew
    have KO := Lib.hid (Add_c A1 A2 c1 c2 X Y _ wc.drew (by omega) (by omega) (HR1'.out.drewN 1) (HR2'.out.drewN 1) (Nat.le_refl _))
    clear p0 p1 p2 p3 p4 p5 p6 s0 s1 s2 s3 s4 s5 s6
    go_region_held3 (BR w bl) (first | assumption | exact BR.step (by assumption) (by assumption) | exact BR.put (by assumption) hbn _ _ _ | exact BR.drew (by assumption) | exact BR.drawn (by assumption) _)
      (first | (go_at_call 43; (refine KO.out.mono ?_); rintro ee wd hp; obtain ⟨A4, c4, rfl, hc4, hr4, hb4⟩ := hp.get; clear hp; have HSV := Lib.hid (BR.step (w := w) (by assumption) hb4)))
    have hr3' := ((HR3.out.drewN 1).below hb4).more hb4.size
    clear KO T3
    have HR1 := Lib.hid (HSV.out.row (n := 2) hbn hr4)
    have HR2 := Lib.hid (HSV.out.row (n := 2) hbn hr3')
    obtain ⟨q0, q1, q2, q3, q4, q5, q6⟩ := HSV.out.res (n := 2) hbn
    have hfin := below_put3 HSV.out.1 (show w.heap.size ≤ w.heap.size + 2 by omega)
    clear L0 L1 L2 L3 L4 L5 M1 M2 M3 M4 M5 M6 T0
    try clear T2
    try clear p0 p1 p2 p3 p4 p5 p6
    try clear s0 s1 s2 s3 s4 s5 s6
    go_wp2_with fail
    refine bodyPost_ret (v := .agg #[.bool g, .slice A4 (nd W (X + Y)) c4, .slice A3 (nd W D) c3]) (by simp [results, Tryd.results22, go_sem, q0, q1, q2, q3]) rfl ?_
    show FrPost (adG g X h Y) (adN g X h Y) D w _ _
    rw [hE.out.1, hE.out.2]
    refine ⟨A4, c4, A3, c3, rfl, hc4, hc3, ?_, ?_, hfin _ _ _⟩
    · simpa using HR1.out _ _ _
    · simpa using HR2.out _ _ _
  case' neg =>
    have hgb : (g == h) = false := beq_eq_false_iff_ne.2 hg
    have HG := Lib.hid hg
    clear hg
    have KC := Lib.hid (Cmp_c A1 A2 c1 c2 X Y _ wc (by omega) (by omega) HR1'.out HR2'.out)
    go_wp2_with fail
    refine KC.out.mono ?_
    rintro ee w6 ⟨rfl, nn, rfl⟩
    by_cases hl : X < Y
    case' pos =>
      have hcn := cmp_neg hl
      have hE := Lib.hid (ad_less HG.out hl)
      have HL := Lib.hid hl
      clear hl KC
      generalize cmpN X Y = cc at *
      go_wp2_with fail
      have T3 : BR w bl (wc.drewN nn).drew := (T2.drawn nn).drew
      have KO := Lib.hid (Sub_c A2 A1 c2 c1 Y X _ (wc.drewN nn).drew (Nat.le_of_lt HL.out) (by omega) (HR2'.out.drewN (nn + 1)) (HR1'.out.drewN (nn + 1)) (Nat.le_refl _))
      clear p0 p1 p2 p3 p4 p5 p6 s0 s1 s2 s3 s4 s5 s6
      go_region_held3 (BR w bl) (first | assumption | exact BR.step (by assumption) (by assumption) | exact BR.put (by assumption) hbn _ _ _ | exact BR.drew (by assumption) | exact BR.drawn (by assumption) _)
        (first | (go_at_call 45; (refine KO.out.mono ?_); rintro ee wd hp; obtain ⟨A4, c4, rfl, hc4, hr4, hb4⟩ := hp.get; clear hp; have HSV := Lib.hid (BR.step (w := w) (by assumption) hb4)))
      have hr3' := ((HR3.out.drewN (nn + 1)).below hb4).more hb4.size
      clear KO T3
      have HR1 := Lib.hid (HSV.out.row (n := 2) hbn hr4)
      have HR2 := Lib.hid (HSV.out.row (n := 2) hbn hr3')
      obtain ⟨q0, q1, q2, q3, q4, q5, q6⟩ := HSV.out.res (n := 2) hbn
      have hfin := below_put3 HSV.out.1 (show w.heap.size ≤ w.heap.size + 2 by omega)
      clear L0 L1 L2 L3 L4 L5 M1 M2 M3 M4 M5 M6 T0
      try clear T2
      try clear p0 p1 p2 p3 p4 p5 p6
      try clear s0 s1 s2 s3 s4 s5 s6
      go_wp2_with fail
      refine bodyPost_ret (v := .agg #[.bool h, .slice A4 (nd W (Y - X)) c4, .slice A3 (nd W D) c3]) (by simp [results, Tryd.results22, go_sem, q0, q1, q2, q3]) rfl ?_
      show FrPost (adG g X h Y) (adN g X h Y) D w _ _
      rw [hE.out.1, hE.out.2]
      refine ⟨A4, c4, A3, c3, rfl, hc4, hc3, ?_, ?_, hfin _ _ _⟩
      · simpa using HR1.out _ _ _
      · simpa using HR2.out _ _ _
    case' neg =>
      have hcn := cmp_pos (Nat.le_of_not_lt hl)
      have hE := Lib.hid (ad_more HG.out hl)
      have HL := Lib.hid hl
      clear hl KC
      generalize cmpN X Y = cc at *
      go_wp2_with fail
      have T3 : BR w bl (wc.drewN nn).drew := (T2.drawn nn).drew
      have KO := Lib.hid (Sub_c A1 A2 c1 c2 X Y _ (wc.drewN nn).drew (Nat.le_of_not_lt HL.out) (by omega) (HR1'.out.drewN (nn + 1)) (HR2'.out.drewN (nn + 1)) (Nat.le_refl _))
      clear p0 p1 p2 p3 p4 p5 p6 s0 s1 s2 s3 s4 s5 s6
      go_region_held3 (BR w bl) (first | assumption | exact BR.step (by assumption) (by assumption) | exact BR.put (by assumption) hbn _ _ _ | exact BR.drew (by assumption) | exact BR.drawn (by assumption) _)
        (first | (go_at_call 45; (refine KO.out.mono ?_); rintro ee wd hp; obtain ⟨A4, c4, rfl, hc4, hr4, hb4⟩ := hp.get; clear hp; have HSV := Lib.hid (BR.step (w := w) (by assumption) hb4)))
      have hr3' := ((HR3.out.drewN (nn + 1)).below hb4).more hb4.size
      clear KO T3
      have HR1 := Lib.hid (HSV.out.row (n := 2) hbn hr4)
      have HR2 := Lib.hid (HSV.out.row (n := 2) hbn hr3')
      obtain ⟨q0, q1, q2, q3, q4, q5, q6⟩ := HSV.out.res (n := 2) hbn
      have hfin := below_put3 HSV.out.1 (show w.heap.size ≤ w.heap.size + 2 by omega)
      clear L0 L1 L2 L3 L4 L5 M1 M2 M3 M4 M5 M6 T0
      try clear T2
      try clear p0 p1 p2 p3 p4 p5 p6
      try clear s0 s1 s2 s3 s4 s5 s6
      go_wp2_with fail
      refine bodyPost_ret (v := .agg #[.bool g, .slice A4 (nd W (X - Y)) c4, .slice A3 (nd W D) c3]) (by simp [results, Tryd.results22, go_sem, q0, q1, q2, q3]) rfl ?_
      show FrPost (adG g X h Y) (adN g X h Y) D w _ _
      rw [hE.out.1, hE.out.2]
      refine ⟨A4, c4, A3, c3, rfl, hc4, hc3, ?_, ?_, hfin _ _ _⟩
      · simpa using HR1.out _ _ _
      · simpa using HR2.out _ _ _
end Go.Proofs.YtajcapliokblfaaDoor
set_option linter.unusedVariables false
namespace Go.Proofs.YtajcapliokblfaaDoor
open Nt

theorem ndB_mul (a b : Nat) : nd 256 (a * b) ≤ nd 256 a + nd 256 b := by
  refine nd_le (by omega) ?_
  rw [Nat.pow_add]
  have h1 := lt_nd (b := 256) (n := a) (by omega)
  have h2 := lt_nd (b := 256) (n := b) (by omega)
  exact Nat.mul_lt_mul'' h1 h2
theorem ndB_add {a b k : Nat} (ha : nd 256 a ≤ k) (hb : nd 256 b ≤ k) : nd 256 (a + b) ≤ k + 1 := by
  refine nd_le (by omega) ?_
  have h1 := Nat.lt_of_lt_of_le (lt_nd (b := 256) (n := a) (by omega)) (Nat.pow_le_pow_right (by omega) ha)
  have h2 := Nat.lt_of_lt_of_le (lt_nd (b := 256) (n := b) (by omega)) (Nat.pow_le_pow_right (by omega) hb)
  rw [Nat.pow_succ]; omega
theorem ndB_mono {a b : Nat} (h : a ≤ b) : nd 256 a ≤ nd 256 b := nd_mono (by omega) h
/-- A rational number's parts have at most k bytes. -/
def Bq (q : Rat) (k : Nat) : Prop := nd 256 (qN q) ≤ k ∧ nd 256 (qD q) ≤ k
theorem Bq.le {q : Rat} {k m : Nat} (h : Bq q k) (hk : k ≤ m) : Bq q m := ⟨Nat.le_trans h.1 hk, Nat.le_trans h.2 hk⟩
theorem adN_le (g : Bool) (x : Nat) (h : Bool) (y : Nat) : adN g x h y ≤ x + y := by
  unfold adN
  by_cases c : x < y <;> cases g <;> cases h <;> simp [c] <;> omega
theorem Bq_fr {g : Bool} {n d k : Nat} (hd : d ≠ 0) (h1 : nd 256 n ≤ k) (h2 : nd 256 d ≤ k) : Bq (fr g n d) k :=
  ⟨Nat.le_trans (ndB_mono (qN_le g n d hd)) h1, Nat.le_trans (ndB_mono (qD_le g n d hd)) h2⟩
theorem Bq.add {x y : Rat} {k m : Nat} (hx : Bq x k) (hy : Bq y m) : Bq (x + y) (k + m + 1) := by
  rw [← fr_add]
  refine Bq_fr (Nat.mul_ne_zero (qD_pos x) (qD_pos y)) ?_ ?_
  · refine Nat.le_trans (ndB_mono (adN_le _ _ _ _)) (ndB_add (k := k + m) ?_ ?_)
    · have := ndB_mul (qN x) (qD y); have := hx.1; have := hy.2; omega
    · have := ndB_mul (qN y) (qD x); have := hx.2; have := hy.1; omega
  · have := ndB_mul (qD x) (qD y); have := hx.2; have := hy.2; omega
theorem Bq.mul {x y : Rat} {k m : Nat} (hx : Bq x k) (hy : Bq y m) : Bq (x * y) (k + m) := by
  rw [← fr_mul]
  refine Bq_fr (Nat.mul_ne_zero (qD_pos x) (qD_pos y)) ?_ ?_
  · have := ndB_mul (qN x) (qN y); have := hx.1; have := hy.1; omega
  · have := ndB_mul (qD x) (qD y); have := hx.2; have := hy.2; omega
theorem Bq.neg {x : Rat} {k : Nat} (hx : Bq x k) : Bq (-x) k := by
  have := q_neg x
  unfold Bq
  rw [this.2.1, this.2.2]; exact hx
theorem Bq.sub {x y : Rat} {k m : Nat} (hx : Bq x k) (hy : Bq y m) : Bq (x - y) (k + m + 1) := by
  rw [Rat.sub_eq_add_neg]; exact hx.add hy.neg
theorem Bq.quo {x y : Rat} {k m : Nat} (hx : Bq x k) (hy : Bq y m) (h0 : qN y ≠ 0) : Bq (x / y) (k + m) := by
  rw [← fr_quo x y h0]
  refine Bq_fr (Nat.mul_ne_zero (qD_pos x) h0) ?_ ?_
  · have := ndB_mul (qN x) (qD y); have := hx.1; have := hy.2; omega
  · have := ndB_mul (qD x) (qN y); have := hx.2; have := hy.1; omega
/-- The laws of a field. -/
theorem fl_comm (x y : Rat) : y + x = x + y := Rat.add_comm y x
theorem fl_assoc (x y z : Rat) : x + (y + z) = x + y + z := (Rat.add_assoc x y z).symm
theorem fl_swap (x y z : Rat) : x * z * y = x * y * z := by rw [Rat.mul_assoc, Rat.mul_comm z y, ← Rat.mul_assoc]
theorem fl_dist (x y z : Rat) : x * (y + z) = x * y + x * z := Rat.mul_add x y z
theorem fl_back (x y : Rat) : x + y - y = x := Rat.add_sub_cancel
theorem fl_over (x y : Rat) (h : qN y ≠ 0) : x * y / y = x := by
  have h0 : y ≠ 0 := fun c => h (qN_eq_zero.2 c)
  rw [Rat.div_def, Rat.mul_assoc, Rat.mul_inv_cancel y h0, Rat.mul_one]
theorem qC_neg (x y : Rat) : qC x y < 0 ↔ qG (x - y) = true := by
  rw [qC_sub]
  by_cases h : qN (x - y) = 0
  · rw [if_pos h, qG_of_zero h]; decide
  · rw [if_neg h]
    cases qG (x - y) <;> simp
theorem qC_nul (x y : Rat) : qC x y = 0 ↔ qN (x - y) = 0 := by
  rw [qC_sub]
  by_cases h : qN (x - y) = 0
  · rw [if_pos h]; simp [h]
  · rw [if_neg h]
    cases qG (x - y) <;> simp [h]
end Go.Proofs.YtajcapliokblfaaDoor
set_option linter.unusedSimpArgs false
set_option linter.unusedVariables false
namespace Go.Proofs.YtajcapliokblfaaDoor
open Go Go.RowKit Nt

@[irreducible] def T19 : Nat := 10000000000000000000
theorem T19_eq : T19 = 10000000000000000000 := by unfold T19; rfl
theorem T19_pow : T19 = 10 ^ 19 := by rw [T19_eq]
/-- The decimal digits, the lowest first, as bytes. -/
def digs (n L : Nat) : List Nat := (dl 10 n L).map (48 + ·)
theorem digs_zero (n : Nat) : digs n 0 = [] := rfl
theorem digs_succ (n L : Nat) : digs n (L + 1) = digs n L ++ [48 + dgt 10 n L] := by unfold digs; rw [dl_succ, List.map_append]; rfl
theorem digs_length (n L : Nat) : (digs n L).length = L := by unfold digs; rw [List.length_map, dl_length]
theorem digs_get (n L j : Nat) (h : j < (digs n L).length) : (digs n L)[j] = 48 + dgt 10 n j := by
  have hj : j < L := by rwa [digs_length] at h
  have e : (digs n L)[j]? = some (48 + dgt 10 n j) := by unfold digs; rw [List.getElem?_map, dl_get? _ _ _ _ hj]; rfl
  rw [List.getElem?_eq_getElem h] at e
  exact Option.some.inj e
/-- The decimal text. -/
@[irreducible] def decS (n : Nat) : ByteArray := if n = 0 then ⟨#[48]⟩ else ⟨((digs n (nd 10 n)).reverse.map UInt8.ofNat).toArray⟩
theorem decS_zero : decS 0 = ⟨#[48]⟩ := by unfold decS; rw [if_pos rfl]
theorem decS_pos {n : Nat} (h : n ≠ 0) : decS n = ⟨((digs n (nd 10 n)).reverse.map UInt8.ofNat).toArray⟩ := by unfold decS; rw [if_neg h]
/-- What is left of a chunk. -/
@[irreducible] def lowV (n L i : Nat) : Nat := n / 10 ^ (L + i) % 10 ^ (19 - i)
theorem lowV_def (n L i : Nat) : lowV n L i = n / 10 ^ (L + i) % 10 ^ (19 - i) := by unfold lowV; rfl
theorem lowV_lt (n L i : Nat) : lowV n L i < 10000000000000000000 := by
  rw [lowV_def]
  refine Nat.lt_of_lt_of_le (Nat.mod_lt _ (Nat.pow_pos (by omega))) ?_
  have : (10 : Nat) ^ (19 - i) ≤ 10 ^ 19 := Nat.pow_le_pow_right (by omega) (by omega)
  exact Nat.le_trans this (by decide)
theorem low_start (n L : Nat) : n / 10 ^ L % T19 = lowV n L 0 := by rw [lowV_def, T19_pow]; rfl
theorem low_digit (n L i : Nat) (hi : i < 19) : lowV n L i % 10 = dgt 10 n (L + i) := by
  obtain ⟨k, hk⟩ : ∃ k, 19 - i = k + 1 := ⟨18 - i, by omega⟩
  rw [lowV_def, hk, dgt_def, Nat.pow_succ, Nat.mul_comm, Nat.mod_mul_right_mod]
theorem low_next (n L i : Nat) (hi : i < 19) : lowV n L i / 10 = lowV n L (i + 1) := by
  obtain ⟨k, hk⟩ : ∃ k, 19 - i = k + 1 := ⟨18 - i, by omega⟩
  rw [lowV_def, lowV_def, hk, show 19 - (i + 1) = k by omega, show L + (i + 1) = L + i + 1 by omega, Nat.pow_succ 10 (L + i), ← Nat.div_div_eq_div_mul, Nat.pow_succ, Nat.mul_comm, Nat.mod_mul_right_div_self]
theorem low_whole (n L i : Nat) (hi : i ≤ 19) : n / 10 ^ (L + i) = lowV n L i + 10 ^ (19 - i) * (n / 10 ^ (L + 19)) := by
  rw [lowV_def, show L + 19 = (L + i) + (19 - i) by omega, Nat.pow_add 10 (L + i), ← Nat.div_div_eq_div_mul]
  exact (Nat.mod_add_div _ _).symm
theorem low_done {n L i : Nat} (hi : i ≤ 19) (h1 : n / 10 ^ (L + 19) = 0) (h2 : lowV n L i = 0) : n / 10 ^ (L + i) = 0 := by rw [low_whole n L i hi, h1, h2]; simp
theorem low_more {n L i : Nat} (hi : i ≤ 19) (h : n / 10 ^ (L + 19) ≠ 0 ∨ lowV n L i ≠ 0) : L + i < nd 10 n := by
  refine (pow_le_iff (by omega) _ _).1 ?_
  have h3 : n / 10 ^ (L + i) ≠ 0 := by
    rw [low_whole n L i hi]
    rcases h with h | h
    · have := Nat.mul_pos (Nat.pow_pos (n := 19 - i) (show 0 < 10 by omega)) (Nat.pos_of_ne_zero h); omega
    · omega
  rcases Nat.lt_or_ge n (10 ^ (L + i)) with h4 | h4
  · exact absurd (Nat.div_eq_of_lt h4) h3
  · exact h4
set_option maxRecDepth 100000 in
theorem NText_no (s : ByteArray) (w : World) (h : ¬ May s) :
    Calls Tryd.prog 30 #[.string s] w (StrPost ⟨#[]⟩ 2 w) := by
  have hm := may1_no h
  go_enter Tryd.func30, Tryd.ntmps30
  go_wp2_with (go_at_call 28; refine (Check_c _ _).mono ?_; rintro e w1 ⟨rfl, hb⟩)
  go_ret2
  exact ⟨rfl, hb⟩
set_option maxRecDepth 100000 in
theorem NText_zero (w : World) :
    Calls Tryd.prog 30 #[.string (natS 0)] w (StrPost (decS 0) 0 w) := by
  have hf : fits 0 := by unfold fits; rw [nd_zero]; omega
  have hm := may1 hf
  have hE := natS_empty (n := 0) rfl
  have HD := Lib.hid decS_zero
  go_enter Tryd.func30, Tryd.ntmps30
  go_wp2_with (go_at_call 28; refine (Check_c _ _).mono ?_; rintro e w1 ⟨rfl, hb⟩)
  go_ret2
  exact ⟨by rw [HD.out]; rfl, hb⟩
set_option maxRecDepth 100000 in
set_option maxHeartbeats 2000000 in
theorem NText_c (n : Nat) (w : World) (hf : fits n) (h0 : n ≠ 0) :
    Calls Tryd.prog 30 #[.string (natS n)] w (StrPost (decS n) 0 w) := by
  obtain ⟨i0, hi0, hz0, hj1, hj2⟩ := info_parts (P := Tryd.prog) (e := 5) (z := .int .u8 0) (size := 1) (bytes := 1) (by kernel_rfl)
  have hm := may1 hf
  have hF := natS_full h0
  have hF2 := natS_full2 h0
  have HD := Lib.hid (decS_pos h0)
  have hwn := fits_words hf
  have HWN := Lib.hid hwn
  have HND : Hid (nd 10 n ≤ 16384 * 8) := Lib.hid (by
    have h1 : nd 2 n ≤ 8 * 16384 := (bits_le n 16384).2 hf
    have h2 : n < 10 ^ nd 2 n := Nat.lt_of_lt_of_le (lt_nd (b := 2) (by omega)) (Nat.pow_le_pow_left (by omega) _)
    have := nd_le (b := 10) (by omega) h2
    omega)
  clear hwn
  go_enter Tryd.func30, Tryd.ntmps30
  go_wp2_with (first
    | (go_at_call 28; refine (Check_c _ _).mono ?_; rintro e w1 ⟨rfl, hb⟩)
    | (go_at_call 49; refine (words_c n _ hf).mono ?_; intro e w2 hp; obtain ⟨A1, c1, rfl, hc1, hr1, hb2⟩ := hp.get; have HR1 := Lib.hid hr1; clear hr1 hp))
  have hb12 := hb.trans (hb2.mono hb.size)
  clear hm hF hF2
  go_loopg [5, 6] n (fun G x y wr => ∃ (m L c : Nat) (A : Option Addr), y = .slice A (nd W m) c ∧ nd W m ≤ c ∧ Hid (Row wr wr.heap.size A m (nd W m)) ∧ Hid (Own wr w.heap.size 5 .u8 x (digs n L)) ∧ Hid (m = n / 10 ^ L) ∧ Hid (L ≤ nd 10 n) ∧ m ≤ G ∧ Below w.heap.size w wr)
  case atStart => exact ⟨n, 0, c1, A1, rfl, hc1, HR1, Lib.hid (Own.nil _ _ _ _), Lib.hid (by rw [Nat.pow_zero, Nat.div_one]), Lib.hid (Nat.zero_le _), Nat.le_refl _, hb12⟩
  case round =>
    obtain ⟨m, L, c, A, rfl, hc, hrow, hown, hm, hL, hG, hbw⟩ := hrel
    by_cases hm0 : m = 0
    · subst hm0
      have e0 : nd W 0 = 0 := nd_zero _
      rw [e0]
      have hLn : L = nd 10 n := by
        have h1 : n < 10 ^ L := by
          rcases Nat.lt_or_ge n (10 ^ L) with h | h
          · exact h
          · have := Nat.div_pos h (Nat.pow_pos (n := L) (show 0 < 10 by omega)); have := hm.out; omega
        have := nd_le (b := 10) (by omega) h1
        have := hL.out; omega
      have hown2 := hown.out
      rw [hLn] at hown2
      have hlen := digs_length n (nd 10 n)
      rcases hown2.form with ⟨rfl, hnil⟩ | ⟨g, cap, cs, rfl, hgB, hgw, hblk, hcap, hcap2, hcs⟩
      · exfalso
        rw [hnil] at hlen
        exact h0 ((nd_eq_zero (b := 10) (by omega)).1 hlen.symm)
      · rw [hlen]
        have hcs' : ∀ j, j < nd 10 n → cs[j]? = some (.int .u8 ((48 + dgt 10 n j : Nat) : Int)) := fun j hj => by
          have h1 : j < (digs n (nd 10 n)).length := by rw [hlen]; exact hj
          rw [hcs j h1, digs_get n (nd 10 n) j h1]
        have hrev := Reverse_c g (nd 10 n) cap 5 cs (fun j => 48 + dgt 10 n j) wr (by have := HND.out; omega) hblk hcs'
        have HREV := Lib.hid hrev
        have HBW := Lib.hid hbw
        have HGB := Lib.hid hgB
        clear hrev hcs' hcs hblk hbw hgB hlen hown2 hrow hown hm hL hG hc hLn hcap2 hgw
        have hn64 : nd 10 n ≤ 131072 := by have := HND.out; omega
        go_wp2_with fail
        refine HREV.out.mono ?_
        rintro e w' ⟨rfl, cs2, hb2', hc2', hbw2⟩
        have hcv : (convert 74 9 (.slice (some ⟨g, 0, none⟩) (nd 10 n) cap)).run Tryd.prog w' = .ok (.string (decS n)) w' := by
          rw [HD.out]
          have hl : ((digs n (nd 10 n)).reverse.map UInt8.ofNat).length = nd 10 n := by rw [List.length_map, List.length_reverse, digs_length]
          have h := run_convert_bytes_back (P := Tryd.prog) w' 74 9 5 ⟨g, 0, none⟩ cap ((digs n (nd 10 n)).reverse.map UInt8.ofNat) Tryd.underlying74 Tryd.underlying5 Tryd.underlying9 (fun j hj => by
            have hj' : j < nd 10 n := by rw [← hl]; exact hj
            rw [add_plain0, hb2'.cell, hc2' j hj', List.getElem_map, List.getElem_reverse, digs_get, digs_length, UInt8.toNat_ofNat', Nat.mod_eq_of_lt]
            have := dgt_lt (b := 10) (by omega) n (nd 10 n - 1 - j); omega)
          rw [hl] at h
          exact h
        have HBL := Lib.hid hbw2
        clear hb2' hc2' hbw2
        go_wp2
        go_ret2
        exact ⟨rfl, HBW.out.trans (HBL.out.mono HGB.out)⟩
    · have hmn : 0 < nd W m := by
        rcases Nat.eq_zero_or_pos (nd W m) with h | h
        · exact absurd ((nd_eq_zero W2).1 h) hm0
        · exact h
      have hmw : nd W m ≤ 2048 := Nat.le_trans (nd_mono W2 (by rw [hm.out]; exact Nat.div_le_self _ _)) HWN.out
      have htk := Take_c A c m T19 wr.heap.size wr (by rw [T19_eq]; omega) (by rw [T19_eq]; omega) (by omega) hrow.out (Nat.le_refl _)
      have hm19 : m / T19 = n / 10 ^ (L + 19) := by rw [hm.out, T19_pow, Nat.div_div_eq_div_mul, ← Nat.pow_add]
      have hl19 : m % T19 = lowV n L 0 := by rw [hm.out, low_start]
      rw [hm19, hl19, show ((T19 : Nat) : Int) = 10000000000000000000 by rw [T19_eq]; rfl] at htk
      have hmlt : n / 10 ^ (L + 19) < m := by
        rw [← hm19]; exact Nat.div_lt_self (by omega) (by rw [T19_eq]; omega)
      obtain ⟨m', hm'⟩ : ∃ m', m' = n / 10 ^ (L + 19) := ⟨_, rfl⟩
      rw [← hm'] at htk hmlt
      have HTK := Lib.hid htk
      have HM' := Lib.hid hm'
      have HG := Lib.hid hG
      have HLT := Lib.hid hmlt
      have hmI : (0 : Int) < (nd W m : Int) := by omega
      have hw0 : nd W m' ≤ 2048 := Nat.le_trans (nd_mono W2 (by rw [hm']; exact Nat.div_le_self _ _)) HWN.out
      clear htk hm19 hl19 hm' hG hmlt
      go_wp2_with (go_at_call 50; refine HTK.out.mono ?_; rintro e w3 ⟨A3, c3, rfl, hA3, hs3, hc3, hr3, hb3⟩; have HA3 := Lib.hid hA3; clear hA3)
      have HDJ : Hid (∀ g, A3 = some ⟨g, 0, none⟩ → Value.ownBlock _ ≠ some g ∧ g < w3.heap.size) := Lib.hid (fun g e => by
        have hA3 := HA3.out
        rw [hA3] at e
        have h2 : wr.heap.size = g := congrArg Addr.block (Option.some.inj e)
        refine ⟨fun c => ?_, by omega⟩
        have h1 := (hown.out.lt g c).2
        omega)
      have HR3 := Lib.hid hr3
      have HOW : Hid (Own w3 w.heap.size 5 .u8 _ (digs n L)) := Lib.hid (hown.out.whole hb3)
      have hbw3 := hbw.trans (hb3.mono hbw.size)
      clear hr3 hrow hown hb3 hs3
      obtain ⟨wo, rfl⟩ : ∃ wo : World, wo = w3 := ⟨_, rfl⟩
      go_loopw [5, 7, 8] (fun x y z wr => ∃ (i : Nat), i ≤ 19 ∧ z = .int .i64 i ∧ y = .int .u64 (lowV n L i : Nat) ∧ Hid (Own wr w.heap.size 5 .u8 x (digs n (L + i))) ∧ Hid (L + i ≤ nd 10 n) ∧ Hid (Row wr wr.heap.size A3 m' (nd W m')) ∧ Hid (∀ g, A3 = some ⟨g, 0, none⟩ → x.ownBlock ≠ some g ∧ g < wr.heap.size) ∧ Below w.heap.size w wr) (fun _ _ z _ => 19 - (intOf z).toNat)
      case atStart => exact ⟨0, by omega, rfl, rfl, HOW, hL, HR3, HDJ, hbw3⟩
      case round =>
        obtain ⟨i, hi, rfl, rfl, hown4, hL4, hr4, hdj4, hb4⟩ := hrel
        have hcase : (i = 19 ∨ (i < 19 ∧ m' = 0 ∧ lowV n L i = 0)) ∨ (i < 19 ∧ (m' ≠ 0 ∨ (m' = 0 ∧ lowV n L i ≠ 0))) := by omega
        rcases hcase with hex | ⟨hi19, hgo⟩
        · have HLi : Hid (m' = n / 10 ^ (L + i)) := Lib.hid (by
            rcases hex with h | ⟨h1, h2, h3⟩
            · rw [HM'.out, h]
            · rw [h2, low_done hi (HM'.out ▸ h2) h3])
          rcases hex with h | ⟨h1, h2, h3⟩
          case' inl => subst h
          case' inr =>
            have hz1 : ¬ 0 < nd W m' := by rw [h2, nd_zero]; omega
            have hz2 : ¬ (0 : Int) < (nd W m' : Int) := by omega
            have hz3 : ¬ (0 : Int) < (lowV n L i : Int) := by omega
            have hz4 : ¬ 0 < lowV n L i := by omega
            have Hh2 := Lib.hid h2
            have Hh3 := Lib.hid h3
            clear h2 h3
          all_goals
            go_wp2
            go_roundg m'
            case rel => exact ⟨m', _, c3, A3, rfl, hc3, hr4, hown4, HLi, hL4, Nat.le_refl _, hb4⟩
            case measure => have := HLT.out; have := HG.out; omega
        · have hlow := low_digit n L i hi19
          have hnx := low_next n L i hi19
          have hmore := low_more (n := n) (L := L) (i := i) (by omega) (by rw [← HM'.out]; omega)
          obtain ⟨d, hd⟩ : ∃ d, d = dgt 10 n (L + i) := ⟨_, rfl⟩
          have hd10 : d < 10 := by rw [hd]; exact dgt_lt (by omega) _ _
          rw [← hd] at hlow
          have e1 : IntKind.u8.wrap ((lowV n L i : Int) % 10) = (d : Int) := by rw [show (lowV n L i : Int) % 10 = ((d : Nat) : Int) by omega, wrap_u8]; omega
          obtain ⟨y, hy⟩ : ∃ y, y = 48 + d := ⟨_, rfl⟩
          have e2 : IntKind.u8.wrap (48 + (d : Int)) = (y : Int) := by rw [show (48 : Int) + (d : Int) = ((y : Nat) : Int) by omega, wrap_u8]; omega
          have e3 : (lowV n L i : Int) / 10 = ((lowV n L (i + 1) : Nat) : Int) := by omega
          have e4 : IntKind.u64.wrap ((lowV n L (i + 1) : Nat) : Int) = ((lowV n L (i + 1) : Nat) : Int) := by have := lowV_lt n L (i + 1); rw [IntKind.wrap_u64]; omega
          have HDD := Lib.hid (show digs n (L + (i + 1)) = digs n (L + i) ++ [y] by rw [show L + (i + 1) = L + i + 1 by omega, digs_succ, hy, hd])
          have HMM := Lib.hid hmore
          have hi19I : (i : Int) < 19 := by omega
          have hd10I : (d : Int) < 10 := by omega
          clear hlow hnx hmore hd hy
          rcases hgo with h | ⟨h1, h2⟩
          case' inl =>
            have hz1 : 0 < nd W m' := by
              rcases Nat.eq_zero_or_pos (nd W m') with h' | h'
              · exact absurd ((nd_eq_zero W2).1 h') h
              · exact h'
            have hz2 : (0 : Int) < (nd W m' : Int) := by omega
          case' inr =>
            have hz1 : ¬ 0 < nd W m' := by rw [h1, nd_zero]; omega
            have hz2 : ¬ (0 : Int) < (nd W m' : Int) := by omega
            have hz3 : (0 : Int) < (lowV n L i : Int) := by omega
            have hz4 : 0 < lowV n L i := by omega
            have Hh1 := Lib.hid h1
            clear h1 h2
          all_goals
            have hlen : (digs n (L + i)).length + 1 ≤ 17592186044416 := by rw [digs_length]; have := HND.out; have := hL4.out; omega
            have HLEN := Lib.hid hlen
            clear hlen
            go_wp2_with (at_builtin; go_loud (refine wpList_app1 wr rfl (.tmp 39) (.tmp 44) _ rfl w.heap.size 5 5 i0 .u8 1 Tryd.underlying74 hi0 hz0 hj1 hj2 (by omega) _ (digs n (L + i)) y rfl rfl hown4.out HLEN.out hb4.size ?_); intro v5 w5 hown5 hb5 hfr5 hnw5)
            rw [← HDD.out] at hown5
            have HO5 := Lib.hid hown5
            have HR5 : Hid (Row w5 w5.heap.size A3 m' (nd W m')) := Lib.hid (hr4.out.frm hfr5 (fun g e => (hdj4.out g e).1) hb5.size)
            have HD5 : Hid (∀ g, A3 = some ⟨g, 0, none⟩ → v5.ownBlock ≠ some g ∧ g < w5.heap.size) := Lib.hid (fun g e => by
              have h0 := hdj4.out g e
              refine ⟨fun c => ?_, Nat.lt_of_lt_of_le h0.2 hb5.size⟩
              rcases hnw5 g c with h | h
              · exact h0.1 h
              · omega)
            clear hown5 hfr5 hnw5
            go_roundw
            case rel => exact ⟨i + 1, by omega, by go_num, rfl, HO5, HMM, HR5, HD5, hb4.trans hb5⟩
            case measure => simp [intOf]; omega
end Go.Proofs.YtajcapliokblfaaDoor
set_option linter.unusedSimpArgs false
set_option linter.unusedVariables false
namespace Go.Proofs.YtajcapliokblfaaDoor
open Go Go.RowKit Nt

/-- What a division leaves. -/
def DivPost (q r : Nat) (w : World) (e : Ending) (w' : World) : Prop :=
  ∃ A c A' c', e = .returned (.tuple #[.slice A (nd W q) c, .slice A' (nd W r) c']) ∧ nd W q ≤ c ∧ nd W r ≤ c' ∧ Row w' w'.heap.size A q (nd W q) ∧ Row w' w'.heap.size A' r (nd W r) ∧ Below w.heap.size w w'
theorem one_word {b : Nat} (h : nd W b = 1) : dgt W b 0 = b ∧ b ≠ 0 ∧ b < 18446744073709551616 := by
  have h1 : b < W ^ 1 := (lt_pow_iff W2 1 b).2 (by omega)
  rw [Nat.pow_one] at h1
  refine ⟨by rw [dgt_def, Nat.pow_zero, Nat.div_one, Nat.mod_eq_of_lt h1], fun c => ?_, by rw [← W_eq]; exact h1⟩
  subst c; rw [nd_zero] at h; omega
set_option maxRecDepth 100000 in
set_option maxHeartbeats 1000000 in
theorem Div_one (A A' : Option Addr) (c c' a b : Nat) (w : World) (hb1 : nd W b = 1) (hab : b ≤ a) (hL : nd W a ≤ 1000000000) (hr : Row w w.heap.size A a (nd W a)) (hr' : Row w w.heap.size A' b (nd W b)) :
    Calls Tryd.prog 65 #[.slice A (nd W a) c, .slice A' (nd W b) c'] w (DivPost (a / b) (a % b) w) := by
  have hcmp := cmp_pos hab
  have hcm := Cmp_c A A' c c' a b w.heap.size w hL (by omega) hr hr'
  have HCM := Lib.hid hcm
  obtain ⟨g', rfl, hg', hcell⟩ := hr'.at_ (k := 0) (by omega)
  obtain ⟨e1, e2, e3⟩ := one_word hb1
  rw [e1] at hcell
  have HR := Lib.hid hr
  have HR' := Lib.hid hr'
  have HE2 := Lib.hid e2
  have HE3 := Lib.hid e3
  have HLL := Lib.hid hL
  have H1 := Lib.hid hb1
  rw [hb1] at HCM ⊢
  clear hcm hr hr' e1 e2 e3 hab hL hb1
  go_enter Tryd.func65, Tryd.ntmps65
  go_wp2
  go_step3
  go_wp2_with (first
    | (go_at_call 44; refine HCM.out.mono ?_; rintro e w1 ⟨rfl, nn, rfl⟩)
    | (go_at_call 50; refine (Take_c A c a b _ _ HE2.out HE3.out HLL.out (HR.out.drewN nn) (Nat.le_refl _)).mono ?_; rintro e w2 ⟨A2, c2, rfl, hA2, hs2, hc2, hr2, hb2⟩; have HR2 := Lib.hid hr2; clear hA2 hr2)
    | (go_at_call 74; refine (Of_c _ _ (by exact Nat.lt_of_lt_of_le (Nat.mod_lt _ (Nat.pos_of_ne_zero HE2.out)) (Nat.le_of_lt HE3.out))).mono ?_; intro e w3 hp; obtain ⟨A3, c3, rfl, hc3, hr3, hb3⟩ := hp.get; have HR3 := Lib.hid hr3; clear hr3 hp))
  rw [Exit.noGoto_ret]
  go_ret2
  exact ⟨_, _, _, _, rfl, hc2, hc3, (HR2.out.below hb3).more hb3.size, HR3.out, (below_drewN (Below.refl _ _) nn).trans (hb2.trans (hb3.mono hb2.size))⟩
/-- Two texts and an error. -/
def Str2Post (s t : ByteArray) (r : Int) (w : World) (e : Ending) (w' : World) : Prop := e = .returned (.tuple #[.string s, .string t, .int .i64 r]) ∧ Below w.heap.size w w'
theorem bodyPost3 : True := trivial
end Go.Proofs.YtajcapliokblfaaDoor
