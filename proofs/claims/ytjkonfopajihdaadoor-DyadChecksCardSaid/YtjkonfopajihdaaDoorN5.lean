/- Contracts of package limb: Len, Read. -/
import Derived.Test.YtjkonfopajihdaaDoorN4
import Derived.RegionTactic
import Derived.LoopTactic
import Derived.Laws.Bits64b
set_option linter.unusedSimpArgs false
set_option linter.unusedVariables false
namespace Go.Proofs.YtjkonfopajihdaaDoor
open Go Go.RowKit Nt

theorem ret_int {k : IntKind} {a b : Int} (h : a = b) : Ending.returned (.int k a) = .returned (.int k b) := by rw [h]
theorem Len_c (A : Option Addr) (c n B : Nat) (w : World) (hL : nd W n ≤ 1000000000) (hr : Row w B A n (nd W n)) :
    Calls Tryd.prog 118 #[.slice A (nd W n) c] w fun e w' => e = .returned (.int .i64 (nd 2 n : Nat)) ∧ w = w' := by
  by_cases h0 : n = 0
  · subst h0
    have h : nd W 0 = 0 := nd_zero _
    rw [h]
    go_enter Tryd.func118, Tryd.ntmps118
    go_wp2
    go_ret
    exact ⟨ret_int (by rw [nd_zero]; rfl), rfl⟩
  · have HR := Lib.hid hr
    have HT := Lib.hid (nd_top (b := 2) (c := W) (e := 64) (by omega) (by omega) W_two n h0)
    have HN : nd W n ≠ 0 := fun c => h0 ((nd_eq_zero W2).1 c)
    obtain ⟨L, hLe⟩ : ∃ L, nd W n = L + 1 := ⟨nd W n - 1, by omega⟩
    rw [hLe] at HR HT hL ⊢
    obtain ⟨g, rfl, _, hcell⟩ := HR.out.at_ (k := L) (by omega)
    have hw := wd_lt n L
    have HB := Lib.hid (bitLen_nd hw)
    have hb64 : Go.Lib.bitLen (dgt W n L) ≤ 64 := by rw [HB.out]; exact nd_le (by omega) hw
    clear hr
    go_enter Tryd.func118, Tryd.ntmps118
    go_wp2_with (go_at_call 114; refine (Tryd.bits_Len64 _ _ (by omega) (by omega)).mono ?_; rintro e w' ⟨rfl, rfl⟩)
    go_ret
    refine ⟨ret_int ?_, rfl⟩
    have h1 := HT.out
    have h2 := HB.out
    rw [Nat.add_sub_cancel] at h1
    rw [h2, h1]; omega

theorem u8_lt (x : UInt8) : x.toNat < 256 := x.toNat_lt
theorem or_word (a v r : Nat) (ha : a < 18446744073709551616) (hv : v < 256) (hr : r < 8) :
    bits BinOp.or IntKind.u64 (a : Int) (IntKind.u64.wrap (IntKind.u64.wrap (v : Int) * 2 ^ (r * 8))) = ((a ||| v * 256 ^ r : Nat) : Int) := by
  have h1 : v * 256 ^ r < 18446744073709551616 := by have := mul_lt_pow (b := 256) hv hr (by omega); rwa [← W_256, W_eq] at this
  have e : IntKind.u64.wrap (IntKind.u64.wrap (v : Int) * 2 ^ (r * 8)) = ((v * 256 ^ r : Nat) : Int) := by
    rw [IntKind.wrap_u64, IntKind.wrap_u64, Int.emod_eq_of_lt (a := (v : Int)) (by omega) (by omega)]
    have e2 : (v : Int) * 2 ^ (r * 8) = ((v * 256 ^ r : Nat) : Int) := by
      rw [Int.natCast_mul, Int.natCast_pow, Nat.mul_comm, Int.pow_mul]; rfl
    rw [e2, Int.emod_eq_of_lt (by omega) (by omega)]
  rw [e, bits_or_u64_nat _ _ ha h1]
set_option maxHeartbeats 400000 in
theorem Read_c (s : ByteArray) (w : World) (hs : s.size ≤ 1000000000) :
    Calls Tryd.prog 81 #[.string s] w (NumPost (bytesN s) w) := by
  obtain ⟨i0, hi0, hz0, hz1, hz2⟩ := info_parts (P := Tryd.prog) (e := 80) (z := .int .u64 0) (size := 1) (bytes := 8) (by kernel_rfl)
  obtain ⟨L, hL⟩ : ∃ L, (s.size + 7) / 8 = L := ⟨_, rfl⟩
  have HL := Lib.hid hL
  have hl : ((s.size : Int) + 7) / 8 = (L : Int) := by omega
  clear hL
  go_enter Tryd.func81, Tryd.ntmps81
  go_wp2_with (at_make; go_loud (refine wpList_make_zero _ rfl (.tmp 9) (.tmp 9) _ rfl 80 i0 _ Tryd.underlying100 hi0 hz0 hz1 .i64 .i64 _ _ L rfl rfl (by first | assumption | rfl) (by first | assumption | rfl) (by rw [hz2]; omega) (by unfold maxLen; omega) ?_))
  rw [wcells_made]
  have HB0 := Lib.hid (Blk.new w 80 (wcells 0 L))
  have hbl : Below w.heap.size w (w.alloc (.cells (wcells 0 L) 80)) := (Below.refl _ _).alloc (Nat.le_refl _) _
  generalize w.alloc (.cells (wcells 0 L) 80) = w1 at *
  obtain ⟨g, hg⟩ : ∃ g, g = w.heap.size := ⟨_, rfl⟩
  rw [← hg] at HB0 hbl ⊢
  have HG := Lib.hid hg
  clear hg
  go_loopw [13] (fun i wr => ∃ k : Nat, k ≤ s.size ∧ i = .int .i64 k ∧ Hid (Blk wr g 80 (wcells (readV s k) L)) ∧ Below g w wr) (fun i _ => s.size - (intOf i).toNat)
  case atStart => exact ⟨0, Nat.zero_le _, rfl, by rw [readV_zero]; exact HB0, hbl⟩
  case round =>
    obtain ⟨k, hk, rfl, hblk, hb⟩ := hrel
    by_cases hlt : k < s.size
    · obtain ⟨m, hm⟩ : ∃ m, s.size = k + 1 + m := ⟨s.size - k - 1, by omega⟩
      obtain ⟨q, hq⟩ : ∃ q, m / 8 = q := ⟨_, rfl⟩
      obtain ⟨r, hr⟩ : ∃ r, m % 8 = r := ⟨_, rfl⟩
      have hqL : q < L := by have := HL.out; omega
      have hc := hblk.out.cell q
      rw [wcells_get _ _ _ hqL] at hc
      have hfz := hblk.out.frozen q
      have hk1 : (s.size : Int) - 1 - (k : Int) = (m : Int) := by omega
      have hq1 : (m : Int) / 8 = (q : Int) := by omega
      have hr1 : (m : Int) % 8 = (r : Int) := by omega
      have hr8 : (r : Int) < 8 := by omega
      have hR8 : r < 8 := by omega
      have HM := Lib.hid hm
      have HQ := Lib.hid hq
      have HR := Lib.hid hr
      clear hm hq hr
      go_wp2
      go_region
      rw [or_word _ _ _ (wd_lt _ _) (u8_lt _) hR8]
      obtain ⟨e1, e2, e3⟩ := read_step s k m q r HM.out hlt HQ.out HR.out
      rw [e1]
      have HB1 := Lib.hid (hblk.out.set_ q (.int .u64 ((dgt W (readV s k) q + (s[k]).toNat * 256 ^ r : Nat) : Int))).drew
      rw [wcells_set _ _ _ _ e2, e3] at HB1
      have hb1 := (hb.setCell (p := ⟨g, q, none⟩) (Nat.le_refl _) (.int .u64 ((dgt W (readV s k) q + (s[k]).toNat * 256 ^ r : Nat) : Int))).drew
      clear e1 e2 e3
      go_wp2
      go_roundw
      case rel => exact ⟨k + 1, by omega, by go_num, HB1, hb1⟩
      case measure => simp [intOf]; omega
    · obtain rfl : k = s.size := by omega
      go_wp2_with fail
      go_at_call 116
      have hbk := hblk.out
      rw [readV_full] at hbk
      refine (Cut_c (some ⟨g, 0, none⟩) L L (bytesN s) wr.heap.size wr ?_ (Nat.le_refl _) (by omega) (Row.of_blk hbk hbk.lt)).mono ?_
      · have := bytesN_lt s
        refine Nat.lt_of_lt_of_le this ?_
        rw [W_256, ← Nat.pow_mul]; exact Nat.pow_le_pow_right (by omega) (by have := HL.out; omega)
      rintro e w' ⟨rfl, rfl⟩
      go_wp2
      go_ret
      have hnd : nd W (bytesN s) ≤ L := by
        have h1 := nd_le (b := 256) (by omega) (bytesN_lt s); rw [← words_bytes]; have := HL.out; omega
      exact NumPost.mk hnd ((Row.of_blk hbk hbk.lt).less hnd) (by rw [← HG.out]; exact hb)
end Go.Proofs.YtjkonfopajihdaaDoor
