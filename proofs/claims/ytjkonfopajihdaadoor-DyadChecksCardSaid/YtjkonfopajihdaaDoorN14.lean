/- Contracts of package limb: Mul. -/
import Derived.Test.YtjkonfopajihdaaDoorN13
set_option linter.unusedSimpArgs false
set_option linter.unusedVariables false
namespace Go.Proofs.YtjkonfopajihdaaDoor
open Go Go.RowKit Nt

/-- One step of a row: the product's words, two sums, the word and what is carried. -/
theorem row_words (D v t c : Nat) (hD : D < 18446744073709551616) (hv : v < 18446744073709551616) (ht : t < 18446744073709551616) (hc : c < 18446744073709551616) : ∃ hi lo lo2 c1 hi2 nw c2 cy : Nat,
    (∀ w, Calls Tryd.prog 123 #[.int .u64 (D : Nat), .int .u64 (v : Nat)] w fun e w' => e = .returned (.tuple #[.int .u64 (hi : Nat), .int .u64 (lo : Nat)]) ∧ w = w') ∧
    (∀ w, (callFunc 120 #[.int .u64 (lo : Nat), .int .u64 (t : Nat), .int .u64 0]).run Tryd.prog w = .ok (.value (.tuple #[.int .u64 (lo2 : Nat), .int .u64 (c1 : Nat)])) w) ∧
    IntKind.u64.wrap ((hi : Int) + (c1 : Int)) = (hi2 : Int) ∧
    (∀ w, (callFunc 120 #[.int .u64 (lo2 : Nat), .int .u64 (c : Nat), .int .u64 0]).run Tryd.prog w = .ok (.value (.tuple #[.int .u64 (nw : Nat), .int .u64 (c2 : Nat)])) w) ∧
    IntKind.u64.wrap ((hi2 : Int) + (c2 : Int)) = (cy : Int) ∧
    nw < 18446744073709551616 ∧ cy < 18446744073709551616 ∧ nw + W * cy = D * v + t + c := by
  have hp := prod_lt hD hv
  have h1 := Tryd.bits_Add64 (D * v % 18446744073709551616) t 0 (by omega)
  have h2 := Tryd.bits_Add64 ((D * v % 18446744073709551616 + t + 0) % 18446744073709551616) c 0 (by omega)
  refine ⟨D * v / 18446744073709551616, D * v % 18446744073709551616, (D * v % 18446744073709551616 + t + 0) % 18446744073709551616, (D * v % 18446744073709551616 + t + 0) / 18446744073709551616,
    D * v / 18446744073709551616 + (D * v % 18446744073709551616 + t + 0) / 18446744073709551616, ((D * v % 18446744073709551616 + t + 0) % 18446744073709551616 + c + 0) % 18446744073709551616, ((D * v % 18446744073709551616 + t + 0) % 18446744073709551616 + c + 0) / 18446744073709551616,
    D * v / 18446744073709551616 + (D * v % 18446744073709551616 + t + 0) / 18446744073709551616 + ((D * v % 18446744073709551616 + t + 0) % 18446744073709551616 + c + 0) / 18446744073709551616, ?_, h1, ?_, h2, ?_, ?_, ?_, ?_⟩
  · intro w
    refine (Tryd.bits_Mul64 D v hD hv w).mono ?_
    rintro e w' ⟨rfl, rfl⟩; exact ⟨rfl, rfl⟩
  · refine wadd_nat rfl ?_
    generalize D * v = p at *; omega
  · refine wadd_nat rfl ?_
    generalize D * v = p at *; omega
  · exact Nat.mod_lt _ (by omega)
  · generalize D * v = p at *; omega
  · rw [W_eq]; generalize D * v = p at *; omega
/-- A row, when j words of it stand. -/
def RowOk (V D b k j Z c : Nat) : Prop := Z + W ^ (k + j) * c = V + W ^ k * (D * (b % W ^ j)) ∧ Z < W ^ (k + nd W b) ∧ c < 18446744073709551616
theorem rowok_start {V b k D : Nat} (hV : V < W ^ (k + nd W b)) : RowOk V D b k 0 V 0 := by
  unfold RowOk
  refine ⟨?_, hV, by omega⟩
  rw [Nat.pow_zero, Nat.mod_one, Nat.mul_zero, Nat.mul_zero, Nat.mul_zero]
theorem rowok_step {V D b k j Z c nw cy : Nat} (h : RowOk V D b k j Z c) (hj : j < nd W b) (hn : nw < 18446744073709551616) (hc : cy < 18446744073709551616)
    (he : nw + W * cy = D * dgt W b j + dgt W Z (k + j) + c) : RowOk V D b k (j + 1) (put W Z (k + j) nw) cy := by
  obtain ⟨h1, h2, _⟩ := h
  refine ⟨?_, put_lt W2 (by rw [W_eq]; exact hn) h2 (by omega), hc⟩
  have hp := put_eq Z (k + j) nw W0
  rw [mod_succ, Nat.mul_add D, Nat.mul_add (W ^ k), ← Nat.add_assoc V, ← h1]
  rw [show k + (j + 1) = k + j + 1 by omega, Nat.pow_succ, Nat.mul_assoc]
  have e1 : W ^ k * (D * (W ^ j * dgt W b j)) = W ^ (k + j) * (D * dgt W b j) := by
    rw [Nat.pow_add, Nat.mul_left_comm D, Nat.mul_assoc]
  rw [e1]
  have e2 : W ^ (k + j) * nw + W ^ (k + j) * (W * cy) = W ^ (k + j) * (D * dgt W b j) + W ^ (k + j) * dgt W Z (k + j) + W ^ (k + j) * c := by
    rw [← Nat.mul_add, he, Nat.mul_add, Nat.mul_add]
  omega
theorem rowok_end {a b k Z c : Nat} (h : RowOk (a % W ^ k * b) (dgt W a k) b k (nd W b) Z c) : dgt W Z (k + nd W b) = 0 ∧ put W Z (k + nd W b) c = a % W ^ (k + 1) * b := by
  obtain ⟨h1, h2, _⟩ := h
  have hz := dgt_of_lt W2 h2 (Nat.le_refl _)
  refine ⟨hz, ?_⟩
  rw [put_new _ _ _ W0 hz, h1, Nat.mod_eq_of_lt (lt_nd W2), mod_succ, Nat.add_mul, Nat.mul_assoc]
theorem row_lt {a b k : Nat} : a % W ^ k * b < W ^ (k + nd W b) := by
  rw [Nat.pow_add]
  have h1 := mod_lt_pow W0 a k
  have h2 := lt_nd (n := b) W2
  rcases Nat.eq_zero_or_pos b with h | h
  · subst h; rw [Nat.mul_zero]; exact Nat.mul_pos (Nat.pow_pos W0) (Nat.pow_pos W0)
  · exact Nat.lt_of_lt_of_le ((Nat.mul_lt_mul_right h).2 h1) (Nat.mul_le_mul_left _ (by omega))
/-- A row cut out of words. -/
theorem row_slice (g k n lb : Nat) (h : k + lb ≤ n) : ∃ A : Option Addr, (lb ≠ 0 → A = some ⟨g, k, none⟩) ∧ ∀ w, (Instr.sliceAt 100 (.slice (some ⟨g, 0, none⟩) n n) (some (.int .i64 k)) (some (.int .i64 ((k : Int) + (lb : Int)))) (some (.int .i64 ((k : Int) + (lb : Int))))).run Tryd.prog w = .ok (.slice A lb lb) w := by
  refine ⟨if k + lb = k then some ⟨g, 0, none⟩ else some ⟨g, k, none⟩, fun h0 => by rw [if_neg (by omega)], fun w => ?_⟩
  have e : (((k : Int) + (lb : Int))).toNat = k + lb := by omega
  have ht : Tryd.prog.underlying 100 = some (.slice (Tryd.prog.elem 100)) := by kernel_rfl
  rw [run_sliceAt_slice (h := ht), run_slice_lhm w 100 _ _ _ ht .i64 .i64 .i64 _ _ _ (by omega) (by omega) (by omega) (by omega), e]
  have he : Tryd.prog.elem 100 = 80 := by kernel_rfl
  rw [he, Tryd.sizeOf80 w]
  simp only [Result.andThen, sliced, Int.toNat_natCast]
  rw [show k + lb - k = lb by omega]
  by_cases h1 : k + lb = k
  · rw [if_pos h1, if_pos h1]
  · rw [if_neg h1, if_neg h1, Nat.mul_one]
    simp only [Option.map]
    rw [add_plain0]
set_option maxRecDepth 100000 in
set_option maxHeartbeats 2000000 in
theorem Mul_c (A A' : Option Addr) (c c' a b B : Nat) (w : World) (hL : nd W a + nd W b ≤ 1000000000) (hr : Row w B A a (nd W a)) (hr' : Row w B A' b (nd W b)) (hBs : B ≤ w.heap.size) :
    Calls Tryd.prog 124 #[.slice A (nd W a) c, .slice A' (nd W b) c'] w (NumPost (a * b) w) := by
  obtain ⟨i0, hi0, hz0, hz1, hz2⟩ := info_parts (P := Tryd.prog) (e := 80) (z := .int .u64 0) (size := 1) (bytes := 8) (by kernel_rfl)
  have HR := Lib.hid hr
  have HR' := Lib.hid hr'
  have HA := Lib.hid (lt_nd (n := a) W2)
  obtain ⟨la, hla⟩ : ∃ la, la = nd W a := ⟨_, rfl⟩
  obtain ⟨lb, hlb⟩ : ∃ lb, lb = nd W b := ⟨_, rfl⟩
  rw [← hla] at HA
  rw [← hla, ← hlb] at hL ⊢
  rw [← hla] at HR
  rw [← hlb] at HR'
  have HLA := Lib.hid hla
  have HLB := Lib.hid hlb
  have hLi : (la : Int) + (lb : Int) ≤ 1000000000 := by omega
  have hlai : (la : Int) ≤ 1000000000 := by omega
  have hlbi : (lb : Int) ≤ 1000000000 := by omega
  clear hr hr' hla hlb
  go_enter Tryd.func124, Tryd.ntmps124
  go_wp2_with (at_make; go_loud (refine wpList_make_zero _ rfl (.tmp 19) (.tmp 19) _ rfl 80 i0 _ Tryd.underlying100 hi0 hz0 hz1 .i64 .i64 _ _ (la + lb) rfl rfl (by omega) (by omega) (by rw [hz2]; omega) (by unfold maxLen; omega) ?_))
  rw [wcells_made]
  have HB0 := Lib.hid (Blk.new w 80 (wcells 0 (la + lb)))
  have hbl : Below w.heap.size w (w.alloc (.cells (wcells 0 (la + lb)) 80)) := (Below.refl _ _).alloc (Nat.le_refl _) _
  generalize w.alloc (.cells (wcells 0 (la + lb)) 80) = w1 at *
  obtain ⟨g, hg⟩ : ∃ g, g = w.heap.size := ⟨_, rfl⟩
  rw [← hg] at HB0 hbl hBs ⊢
  have HG := Lib.hid hg
  clear hg
  go_loopw [23] (fun i wr => ∃ k : Nat, k ≤ la ∧ i = .int .i64 k ∧ Hid (Blk wr g 80 (wcells (a % W ^ k * b) (la + lb))) ∧ Below g w wr) (fun i _ => la - (intOf i).toNat)
  case atStart => exact ⟨0, Nat.zero_le _, rfl, by rw [mod_one, Nat.zero_mul]; exact HB0, hbl⟩
  case round =>
    obtain ⟨k, hk, rfl, hblk, hb⟩ := hrel
    obtain ⟨wo, rfl⟩ : ∃ wo : World, wo = wr := ⟨_, rfl⟩
    by_cases hlt : k < la
    · obtain ⟨ga, rfl, hga, hca⟩ := HR.out.at_ hlt
      have hca2 := (hb.cell (p := ⟨ga, k, none⟩) (by show ga < g; omega)).trans hca
      clear hca
      have hkl : (k : Int) + (lb : Int) ≤ 1000000000 := by omega
      by_cases hz : dgt W a k = 0
      · have hz' := eqz_true hz
        have HB1 := hblk
        rw [show a % W ^ k * b = a % W ^ (k + 1) * b by rw [mod_succ, hz, Nat.mul_zero, Nat.add_zero]] at HB1
        clear hz
        go_wp2
        go_roundw
        case rel => exact ⟨k + 1, by omega, by go_num, HB1, hb⟩
        case measure => simp [intOf]; omega
      · have hz' := eqz_false hz
        have HZ := Lib.hid hz
        have hkk : k + lb ≤ la + lb := by omega
        have HKK := Lib.hid hkk
        obtain ⟨Ar, hAr, hsl⟩ := row_slice g k (la + lb) lb hkk
        have HAr := Lib.hid hAr
        clear hz hkk hAr
        go_wp2
        have hinit := Lib.hid (rowok_start (D := dgt W a k) (row_lt (a := a) (b := b) (k := k)))
        go_loopw [8, 43] (fun cy i wr => ∃ j Z cc : Nat, j ≤ lb ∧ i = .int .i64 j ∧ cy = .int .u64 cc ∧ Hid (RowOk (a % W ^ k * b) (dgt W a k) b k j Z cc) ∧ Hid (Blk wr g 80 (wcells Z (la + lb))) ∧ Below g w wr) (fun _ i _ => lb - (intOf i).toNat)
        case atStart => exact ⟨0, _, 0, Nat.zero_le _, rfl, rfl, hinit, hblk, hb⟩
        case round =>
          obtain ⟨j, Z, cc, hj, rfl, rfl, hok, hblk2, hb2⟩ := hrel
          by_cases hltj : j < lb
          · obtain rfl : Ar = some ⟨g, k, none⟩ := HAr.out (by omega)
            obtain ⟨gb, rfl, hgb, hcb⟩ := HR'.out.at_ hltj
            have hcb2 := (hb2.cell (p := ⟨gb, j, none⟩) (by show gb < g; omega)).trans hcb
            have hfz := hblk2.out.frozen (k + j)
            have hck := hblk2.out.cell (k + j)
            rw [wcells_get _ _ _ (by have := HKK.out; omega)] at hck
            obtain ⟨hi, lo, lo2, c1, hi2, nw, c2, cy, hmul, ha1, hw1, ha2, hw2, hnw, hcy, heq⟩ := row_words (dgt W a k) (dgt W b j) (dgt W Z (k + j)) cc (wd_lt _ _) (wd_lt _ _) (wd_lt _ _) hok.out.2.2
            have HOK := Lib.hid (rowok_step hok.out (by rw [← HLB.out]; exact hltj) hnw hcy heq)
            have HB1 := Lib.hid (hblk2.out.set_ (k + j) (.int .u64 (nw : Nat)))
            rw [wcells_set _ _ _ _ hnw] at HB1
            have hb1 := hb2.setCell (p := ⟨g, k + j, none⟩) (Nat.le_refl _) (.int .u64 (nw : Nat))
            have HM := Lib.hid hmul
            clear hmul hcb heq hnw hcy
            go_wp2_with (first | simp only [ha1] | simp only [ha2] | (go_at_call 123; refine (HM.out _).mono ?_; rintro e w' ⟨rfl, rfl⟩))
            go_roundw
            case rel => exact ⟨j + 1, _, cy, by omega, by go_num, rfl, HOK, HB1, hb1⟩
            case measure => simp [intOf]; omega
          · obtain rfl : j = lb := by omega
            have hr2 := hok.out
            have e1 := rowok_end (a := a) (b := b) (k := k) (Z := Z) (c := cc) (by rw [← HLB.out]; exact hr2)
            rw [← HLB.out] at e1
            have hfz := hblk2.out.frozen (k + j)
            have hck := hblk2.out.cell (k + j)
            rw [wcells_get _ _ _ (by omega)] at hck
            have HB1 := Lib.hid (hblk2.out.set_ (k + j) (.int .u64 (cc : Nat)))
            rw [wcells_set _ _ _ _ hr2.2.2, e1.2] at HB1
            have hb1 := hb2.setCell (p := ⟨g, k + j, none⟩) (Nat.le_refl _) (.int .u64 (cc : Nat))
            have hkj : (k : Int) + (j : Int) < (la : Int) + (j : Int) := by omega
            have hkj2 : k + j < la + j := by omega
            have HLh := Lib.hid hL
            have hk1 : (k : Int) + 1 ≤ 1000000000 := by omega
            have hk2 : (k : Int) ≤ 1000000000 := by omega
            clear hr2 e1 hj hltj hL hLi hlai hlbi hsl
            go_wp2
            go_roundw
            case rel => exact ⟨k + 1, by omega, by go_num, HB1, hb1⟩
            case measure => simp [intOf]; omega
    · obtain rfl : k = la := by omega
      have HB1 := hblk.out
      rw [Nat.mod_eq_of_lt HA.out] at HB1
      have HB1' := Lib.hid HB1
      have hs : a * b < W ^ (k + lb) := by
        have := row_lt (a := a) (b := b) (k := k)
        rw [Nat.mod_eq_of_lt HA.out, ← HLB.out] at this; exact this
      have HS := Lib.hid hs
      clear HB1 hs
      go_wp2_with fail
      refine (Cut_c (some ⟨g, 0, none⟩) (k + lb) (k + lb) _ (g + 1) _ HS.out (Nat.le_refl _) (by omega) (Row.of_blk HB1'.out (by omega))).mono ?_
      rintro e w' ⟨rfl, rfl⟩
      go_wp2
      go_ret
      have hnd := nd_le W2 HS.out
      exact NumPost.mk hnd ((Row.of_blk HB1'.out HB1'.out.lt).less hnd) (by rw [← HG.out]; exact hb)
end Go.Proofs.YtjkonfopajihdaaDoor
