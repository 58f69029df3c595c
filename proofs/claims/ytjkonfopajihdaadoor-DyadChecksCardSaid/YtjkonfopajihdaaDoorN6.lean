/- Contracts of package limb: Bytes, Of. -/
import Derived.Test.YtjkonfopajihdaaDoorN5
import Derived.Lib.ConvBytes
set_option linter.unusedSimpArgs false
set_option linter.unusedVariables false
namespace Go.Proofs.YtjkonfopajihdaaDoor
open Go Go.RowKit Nt

/-- Cells of one kind of integers by a function. -/
def fcells (k : IntKind) (f : Nat → Nat) (L : Nat) : Array Value := ((List.range L).map (fun j => Value.int k (f j : Nat))).toArray
theorem fcells_size (k : IntKind) (f : Nat → Nat) (L : Nat) : (fcells k f L).size = L := by simp [fcells]
theorem fcells_get (k : IntKind) (f : Nat → Nat) (L j : Nat) (h : j < L) : (fcells k f L)[j]? = some (.int k (f j : Nat)) := by
  unfold fcells
  rw [List.getElem?_toArray, List.getElem?_map, List.getElem?_range h]; rfl
theorem fcells_congr {k : IntKind} {f f' : Nat → Nat} {L : Nat} (h : ∀ j, j < L → f j = f' j) : fcells k f L = fcells k f' L := by
  unfold fcells; congr 1; apply List.map_congr_left; intro j hj; rw [h j (List.mem_range.1 hj)]
theorem fcells_set (k : IntKind) (f : Nat → Nat) (L i v : Nat) : (fcells k f L).setIfInBounds i (.int k (v : Nat)) = fcells k (fun j => if j = i then v else f j) L := by
  apply Array.ext_getElem?
  intro j
  rw [Array.getElem?_setIfInBounds, fcells_size]
  by_cases hj : j < L
  · rw [fcells_get k (fun j => if j = i then v else f j) L j hj]
    by_cases h : i = j
    · subst h; rw [if_pos rfl, if_pos hj, if_pos rfl]
    · rw [if_neg h, fcells_get k f L j hj, if_neg (fun c => h c.symm)]
  · rw [Array.getElem?_eq_none (xs := fcells k (fun j => if j = i then v else f j) L) (by rw [fcells_size]; omega)]
    by_cases h : i = j
    · subst h; rw [if_pos rfl, if_neg hj]
    · rw [if_neg h, Array.getElem?_eq_none (by rw [fcells_size]; omega)]
theorem fcells_made (k : IntKind) (L : Nat) : madeCells #[.int k 0] L = fcells k (fun _ => 0) L := by
  apply Array.ext_getElem?
  intro j
  by_cases h : j < L
  · rw [fcells_get k _ L j h]
    simp [madeCells, h, Nat.mod_one]
  · rw [Array.getElem?_eq_none (by simp [madeCells]; omega), Array.getElem?_eq_none (by rw [fcells_size]; omega)]
/-- The bytes of a number, the highest first, so many of them. -/
def byteF (n k j : Nat) : Nat := if j < k then dgt 256 n (nd 256 n - 1 - j) else 0
theorem byteF_step (n k j : Nat) : (if j = k then dgt 256 n (nd 256 n - 1 - k) else byteF n k j) = byteF n (k + 1) j := by
  unfold byteF
  by_cases h : j = k
  · subst h; rw [if_pos rfl, if_pos (by omega)]
  · rw [if_neg h]
    by_cases h2 : j < k
    · rw [if_pos h2, if_pos (by omega)]
    · rw [if_neg h2, if_neg (by omega)]
theorem shr_byte (n q r : Nat) (hr : r < 8) : dgt W n q / 256 ^ r % 256 = dgt 256 n (8 * q + r) := by
  have := dgt_in (b := 256) (e := 8) (by omega) n q r hr
  rw [← W_256] at this
  rw [← this, dgt_def 256]
theorem shr_val (n q r : Nat) (hr : r < 8) : ((dgt W n q : Nat) : Int) / 2 ^ (r * 8) % 256 = ((dgt 256 n (8 * q + r) : Nat) : Int) := by
  rw [← shr_byte n q r hr, Int.natCast_emod, Int.natCast_ediv, Int.natCast_pow, Nat.mul_comm r 8, Int.pow_mul]; rfl
theorem shr_word (a r : Nat) : (a : Int) / 2 ^ (r * 8) = ((a / 256 ^ r : Nat) : Int) := by
  rw [Int.natCast_ediv, Int.natCast_pow, Nat.mul_comm, Int.pow_mul]; rfl
theorem wrap_u8 (a : Nat) : IntKind.u8.wrap (a : Int) = ((a % 256 : Nat) : Int) := by
  simp [IntKind.wrap, IntKind.bits, IntKind.signed]
theorem add_plain0 (g j : Nat) : (⟨g, 0, none⟩ : Addr).add j = ⟨g, j, none⟩ := by
  unfold Addr.add; split
  · rename_i h; subst h; rfl
  · simp
set_option maxHeartbeats 400000 in
theorem Bytes_c (A : Option Addr) (c n B : Nat) (w : World) (hL : nd W n ≤ 1000000000) (hr : Row w B A n (nd W n)) (hB : B ≤ w.heap.size) :
    Calls Tryd.prog 119 #[.slice A (nd W n) c] w fun e w' => e = .returned (.string (natS n)) ∧ Below w.heap.size w w' := by
  obtain ⟨i0, hi0, hz0, hz1, hz2⟩ := info_parts (P := Tryd.prog) (e := 5) (z := .int .u8 0) (size := 1) (bytes := 1) (by kernel_rfl)
  have HLN := Lib.hid (words_bytes n)
  have HBB := Lib.hid (bytes_bits n)
  have hl : ((nd 2 n : Int) + 7) / 8 = (nd 256 n : Int) := by have := HBB.out; omega
  have hx : nd 256 n ≤ 8000000000 := by have := HLN.out; omega
  have hx2 : nd 2 n ≤ 64000000000 := by have := HBB.out; omega
  have HR := Lib.hid hr
  clear hr
  go_enter Tryd.func119, Tryd.ntmps119
  go_wp2_with (first | (go_at_call 118; refine (Len_c _ _ _ B _ hL HR.out).mono ?_; rintro e w' ⟨rfl, rfl⟩) | (at_make; go_loud (refine wpList_make_zero _ rfl (.tmp 9) (.tmp 9) _ rfl 5 i0 _ Tryd.underlying114 hi0 hz0 hz1 .i64 .i64 _ _ (nd 256 n) rfl rfl (by first | assumption | rfl) (by first | assumption | rfl) (by rw [hz2]; omega) (by unfold maxLen; omega) ?_)))
  rw [fcells_made]
  have HB0 := Lib.hid (Blk.new w 5 (fcells .u8 (fun _ => 0) (nd 256 n)))
  have hbl : Below w.heap.size w (w.alloc (.cells (fcells .u8 (fun _ => 0) (nd 256 n)) 5)) := (Below.refl _ _).alloc (Nat.le_refl _) _
  generalize w.alloc (.cells (fcells .u8 (fun _ => 0) (nd 256 n)) 5) = w1 at *
  obtain ⟨g, hg⟩ : ∃ g, g = w.heap.size := ⟨_, rfl⟩
  rw [← hg] at HB0 hbl ⊢
  have HG := Lib.hid hg
  clear hg
  obtain ⟨N, hN⟩ : ∃ N, N = nd 256 n := ⟨_, rfl⟩
  rw [← hN] at hl hx HB0 ⊢
  have HN := Lib.hid hN
  clear hN hl
  go_loopw [13] (fun i wr => ∃ k : Nat, k ≤ N ∧ i = .int .i64 k ∧ Hid (Blk wr g 5 (fcells .u8 (byteF n k) N)) ∧ Below g w wr) (fun i _ => N - (intOf i).toNat)
  case atStart => exact ⟨0, Nat.zero_le _, rfl, by rw [fcells_congr (f' := fun _ => 0) (fun j _ => by unfold byteF; rw [if_neg (by omega)])]; exact HB0, hbl⟩
  case round =>
    obtain ⟨k, hk, rfl, hblk, hb⟩ := hrel
    by_cases hlt : k < N
    · obtain ⟨m, hm⟩ : ∃ m, N = k + 1 + m := ⟨N - k - 1, by omega⟩
      obtain ⟨q, hq⟩ : ∃ q, m / 8 = q := ⟨_, rfl⟩
      obtain ⟨r, hr⟩ : ∃ r, m % 8 = r := ⟨_, rfl⟩
      have hqL : q < nd W n := by have := HLN.out; have := HN.out; omega
      obtain ⟨ga, rfl, hga, hca⟩ := HR.out.at_ hqL
      have hca2 := (hb.cell (p := ⟨ga, q, none⟩) (by have := HG.out; show ga < g; omega)).trans hca
      have hfz := hblk.out.frozen k
      have hck := hblk.out.cell k
      rw [fcells_get _ _ _ _ hlt] at hck
      have hk1 : (N : Int) - 1 - (k : Int) = (m : Int) := by omega
      have hq1 : (m : Int) / 8 = (q : Int) := by omega
      have hr1 : (m : Int) % 8 = (r : Int) := by omega
      have hr8 : (r : Int) < 8 := by omega
      have hR8 : r < 8 := by omega
      have HM := Lib.hid hm
      have HQ := Lib.hid hq
      have HR' := Lib.hid hr
      clear hm hq hr hca
      go_wp2
      rw [shr_val n q r hR8]
      have hv : 8 * q + r = nd 256 n - 1 - k := by have := HM.out; have := HN.out; have := HQ.out; have := HR'.out; omega
      rw [hv]
      have HB1 := Lib.hid (hblk.out.set_ k (.int .u8 ((dgt 256 n (nd 256 n - 1 - k) : Nat) : Int)))
      rw [fcells_set, fcells_congr (f' := byteF n (k + 1)) (fun j _ => byteF_step n k j)] at HB1
      have hb1 := hb.setCell (p := ⟨g, k, none⟩) (Nat.le_refl _) (.int .u8 ((dgt 256 n (nd 256 n - 1 - k) : Nat) : Int))
      go_roundw
      case rel => exact ⟨k + 1, by omega, by go_num, HB1, hb1⟩
      case measure => simp [intOf]; omega
    · obtain rfl : k = N := by omega
      have hcv : (convert 114 9 (.slice (some ⟨g, 0, none⟩) k k)).run Tryd.prog wr = .ok (.string (natS n)) wr := by
        have hN := HN.out
        have hl : ((dl 256 n (nd 256 n)).reverse.map UInt8.ofNat).length = k := by simp [dl_length, hN]
        have h := run_convert_bytes_back (P := Tryd.prog) wr 114 9 5 ⟨g, 0, none⟩ k ((dl 256 n (nd 256 n)).reverse.map UInt8.ofNat) Tryd.underlying114 Tryd.underlying5 Tryd.underlying9 (fun j hj => by
          rw [add_plain0, hblk.out.cell, fcells_get _ _ _ _ (by rw [← hl]; exact hj)]
          have e := natS_get n j (by rw [natS_size, ← hN, ← hl]; exact hj)
          rw [ba_get] at e
          simp only [natS_def] at e
          rw [List.getElem_toArray] at e
          rw [e]
          unfold byteF
          rw [if_pos (by rw [← hl]; exact hj)])
        rw [hl, ← natS_def] at h
        exact h
      go_wp2
      go_ret
      exact ⟨rfl, by rw [← HG.out]; exact hb⟩
end Go.Proofs.YtjkonfopajihdaaDoor
