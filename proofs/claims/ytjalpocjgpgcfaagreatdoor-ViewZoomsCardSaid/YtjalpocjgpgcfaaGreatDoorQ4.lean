/- Texts put together: D10 D11 D12 D13 N43 D14 D15 D16 N39 N41of D17 D18 D19 D23 Fft B1t B2t Mtt B3t EvT D6 D20 D21 D5 D7 D22 D24 D25 D26 D27 D28. -/
import Derived.Test.YtjalpocjgpgcfaaGreatDoorQ3
import Derived.BigQuiet
import Derived.Deep.RegionLaw
import Derived.Test.YtjalpocjgpgcfaaGreatDoorQ2
import Ieee.Arith
import Derived.Test.YtjalpocjgpgcfaaGreatDoorProg
import Derived.WalkKit
import Derived.WalkLawsBesides
import Derived.WalkSpells
import Derived.Outline
import Derived.Lib.Hide
import Derived.Deep.Light
import Derived.Laws.BitsAllLaws
import Derived.Laws.FloatArith
import Derived.Deep.QuietTactic
import Derived.Lib.TrailingZeros
import Derived.Shelf.Strconv.Itoa0
import Derived.Laws.ShiftsVarLaws
import Derived.WalkSmall
import Derived.Test.YtjalpocjgpgcfaaGreatDoorRows
import Derived.LaidSub
import Derived.Lib.LaidTab
import Derived.Deep.RegionHeld3
set_option linter.unusedSimpArgs false
set_option linter.unusedVariables false
namespace Go.Proofs.YtjalpocjgpgcfaaGreatDoor
open Go Go.RowKit Nt

/-- A number of any length that a call made: its digits, no 0 at the end. -/
def BigP (z : Nat) (w : World) (e : Ending) (w' : World) : Prop := ∃ A c, e = .returned (.slice A (nd 256 z) c) ∧ Own w' w.heap.size 3 .i64 (.slice A (nd 256 z) c) (dl 256 z (nd 256 z)) ∧ Below w.heap.size w w'
theorem zmade (q : Nat) : madeCells #[.int .i64 0] q = fcells .i64 (dgt 256 0) q := by
  rw [fcells_made]
  exact fcells_congr fun j _ => by rw [dgt_def, Nat.zero_div]
theorem fcells_list3 (k : IntKind) (f : Nat → Nat) (L : Nat) : (fcells k f L).toList = (((List.range L).map f).map (fun (x : Nat) => Value.int k (x : Int))) := by
  unfold fcells; rw [List.map_map]; rfl
theorem Own.of_zero {w : World} {B g : Nat} {T : TypeId} {L : Nat} (h : Blk w g T (fcells .i64 (dgt 256 0) L)) (hB : B ≤ g) (hL : L ≤ 1000000000) :
    Own w B T .i64 (.slice (some ⟨g, 0, none⟩) L L) (dl 256 0 L) := by
  unfold Own
  rw [dl_length]
  refine ⟨by simp [dl_length], Or.inr ⟨g, L, fcells .i64 (dgt 256 0) L, rfl, hB, h, Nat.le_refl _, by unfold maxLen; omega, by rw [fcells_size, Nat.mul_one], ?_⟩⟩
  rw [fcells_list3, Nat.mul_one]
  exact List.take_of_length_le (by simp)
theorem low_zero (q z : Nat) : dl 256 (256 ^ q * z) q = dl 256 0 q := dl_congr fun i hi => by
  rw [← dgt_mod (256 ^ q * z) hi, Nat.mul_mod_right]
theorem low_skip (q z i : Nat) : dgt 256 (256 ^ q * z) (q + i) = dgt 256 z i := by
  have := dgt_skip (b := 256) (256 ^ q * z) q i
  rw [Nat.mul_div_cancel_left _ (Nat.pow_pos (by omega))] at this
  rw [this, Nat.add_comm]
theorem pow_split (b : Nat) : 2 ^ b = 256 ^ (b / 8) * 2 ^ (b % 8) := by
  rw [show (256 : Nat) = 2 ^ 8 from rfl, ← Nat.pow_mul, ← Nat.pow_add]
  congr 1; omega
theorem wr_sum (m D : Nat) (h1 : m < 256) (h2 : D ≤ 32640) : wrap64 ((m : Int) + wrap64 (D : Int)) = ((m + D : Nat) : Int) := by
  rw [IntWalk.wrap64_in (D : Int) (by omega), ← Int.natCast_add, IntWalk.wrap64_in _ (by omega)]
theorem wr_pow {d s r : Nat} (hs : 2 ^ r = s) : (d : Int) * 2 ^ r = ((d * s : Nat) : Int) := by rw [int_pow2, hs, Int.natCast_mul]
theorem wr_all {d s r m D : Nat} (hs : 2 ^ r = s) (hD : D = d * s) (h1 : m < 256) (h2 : D ≤ 32640) : Hid (wrap64 ((m : Int) + wrap64 ((d : Int) * 2 ^ r)) = ((m + D : Nat) : Int)) := Lib.hid (by rw [wr_pow hs, ← hD]; exact wr_sum m D h1 h2)
theorem shf_nat {n s k d m x y : Nat} (hs128 : s ≤ 128) (hd : d = dgt 256 n k) (hm : m = mca 256 n s 0 k) (hx : x = dgt 256 (n * s) k) (hy : y = mca 256 n s 0 (k + 1)) :
    ∃ D, D = d * s ∧ D ≤ 32640 ∧ (m + D) % 256 = x ∧ (m + D) / 256 = y ∧ d < 256 ∧ m < 256 ∧ x < 256 ∧ y < 256 := by
  have h1 := dgt_lt (b := 256) (by omega) n k
  have h2 := mca_lt (b := 256) (by omega) n s 0 k (by omega) (by omega)
  have h3 := dgt_mca (b := 256) (by omega) n s 0 k
  have h4 := mca_succ (b := 256) (by omega) n s 0 k
  have h5 := dgt_lt (b := 256) (by omega) (n * s) k
  have h6 := mca_lt (b := 256) (by omega) n s 0 (k + 1) (by omega) (by omega)
  rw [Nat.add_zero, ← hd, ← hm, ← hx, Nat.add_comm] at h3
  rw [← hd, ← hm, ← hy, Nat.add_comm] at h4
  rw [← hd] at h1
  rw [← hm] at h2
  rw [← hx] at h5
  rw [← hy] at h6
  have hb : d * s ≤ 255 * 128 := Nat.mul_le_mul (by omega) hs128
  exact ⟨d * s, rfl, hb, h3.symm, h4.symm, h1, h2, h5, h6⟩
theorem mod_int {S x : Nat} (h : S % 256 = x) : (S : Int).tmod 256 = (x : Int) := by rw [Int.tmod_eq_emod_of_nonneg (by omega)]; omega
theorem div_int {S y : Nat} (h : S / 256 = y) : (S : Int).tdiv 256 = (y : Int) := by rw [Int.tdiv_eq_ediv_of_nonneg (by omega)]; omega
theorem shf_num {n s r k d m x y : Nat} (hs : 2 ^ r = s) (hs128 : s ≤ 128) (hd : d = dgt 256 n k) (hm : m = mca 256 n s 0 k) (hx : x = dgt 256 (n * s) k) (hy : y = mca 256 n s 0 (k + 1)) :
    ∃ S : Nat, Hid (wrap64 ((m : Int) + wrap64 ((d : Int) * 2 ^ r)) = (S : Int)) ∧ (S : Int).tmod 256 = (x : Int) ∧ (S : Int).tdiv 256 = (y : Int) ∧ S ≤ 40000 ∧ d < 256 ∧ m < 256 ∧ x < 256 ∧ y < 256 := by
  obtain ⟨D, hD, hDb, h1, h2, h3, h4, h5, h6⟩ := shf_nat hs128 hd hm hx hy
  have hS : m + D ≤ 40000 := by clear hs hD h1 h2; omega
  have H := wr_all hs hD h4 hDb
  clear hs hD
  obtain ⟨S, hSe⟩ : ∃ S, S = m + D := ⟨_, rfl⟩
  rw [← hSe] at hS H h1 h2
  exact ⟨S, H, mod_int h1, div_int h2, hS, h3, h4, h5, h6⟩
theorem shf_last {n s L m : Nat} (hs128 : s ≤ 128) (hL : nd 256 n = L) (hm : m = mca 256 n s 0 L) (q : Nat) :
    m = dgt 256 (256 ^ q * (n * s)) (q + L) ∧ nd 256 (256 ^ q * (n * s)) ≤ q + L + 1 ∧ m < 256 := by
  have hn : n < 256 ^ L := by rw [← hL]; exact lt_nd (by omega)
  have h := mca_last (b := 256) (by omega) n s 0 L hn (by omega) (by omega)
  rw [Nat.add_zero] at h
  refine ⟨by rw [low_skip, hm, h], nd_le (by omega) ?_, by rw [hm, h]; exact dgt_lt (by omega) _ _⟩
  rw [Nat.add_assoc, Nat.pow_add]
  refine Nat.mul_lt_mul_of_pos_left ?_ (Nat.pow_pos (by omega))
  rw [Nat.pow_succ]
  exact Nat.mul_lt_mul'' hn (by omega)
set_option maxRecDepth 100000 in
set_option maxHeartbeats 1000000 in
theorem rShifted3_c (n b B : Nat) (A : Option Addr) (c : Nat) (w : World) (hn : nd 256 n ≤ 1000000) (hb0 : b ≤ 8000000) (h : Own w B 3 .i64 (.slice A (nd 256 n) c) (dl 256 n (nd 256 n))) :
    Calls Tryz.prog 69 #[.slice A (nd 256 n) c, .int .i64 (b : Nat)] w (BigP (n * 2 ^ b) w) := by
  by_cases h0 : n = 0
  · subst h0
    rw [nd_zero] at h ⊢
    have hz : nd 256 (0 * 2 ^ b) = 0 := by rw [Nat.zero_mul, nd_zero]
    have HP : Hid (Own w w.heap.size 3 .i64 (.slice none (nd 256 (0 * 2 ^ b)) 0) (dl 256 (0 * 2 ^ b) (nd 256 (0 * 2 ^ b)))) := Lib.hid (by rw [hz]; exact Own.nil _ _ _ _)
    have HZ := Lib.hid hz
    clear h hz
    go_enter Tryz.func69, Tryz.ntmps69
    go_wp2
    go_ret
    exact ⟨none, 0, by rw [HZ.out]; try rfl, HP.out, Below.refl _ _⟩
  · obtain ⟨i0, hi0, hz0, hj1, hj2⟩ := info_parts (P := Tryz.prog) (e := 3) (z := .int .i64 0) (size := 1) (bytes := 8) (by kernel_rfl)
    obtain ⟨L, hL⟩ : ∃ L, nd 256 n = L := ⟨_, rfl⟩
    have hL0 : L ≠ 0 := fun c => h0 ((nd_eq_zero (by omega)).1 (hL.trans c))
    rw [hL] at h hn ⊢
    obtain ⟨q, hq⟩ : ∃ q, b / 8 = q := ⟨_, rfl⟩
    obtain ⟨r, hr⟩ : ∃ r, b % 8 = r := ⟨_, rfl⟩
    obtain ⟨s, hs⟩ : ∃ s, 2 ^ r = s := ⟨_, rfl⟩
    have HE := Lib.hid (show n * 2 ^ b = 256 ^ q * (n * s) by rw [pow_split, hq, hr, hs]; rw [Nat.mul_left_comm])
    have hr8 : r < 8 := by omega
    have hs128 : s ≤ 128 := by rw [← hs]; exact Nat.pow_le_pow_right (n := 2) (by omega) (show r ≤ 7 by omega)
    have HLn := Lib.hid hL
    have HS := Lib.hid hs
    have HS128 := Lib.hid hs128
    have hsrc : Hid (∀ wr, Below w.heap.size w wr → ∀ j, j < L → ∃ g, A = some ⟨g, 0, none⟩ ∧ wr.cell? ⟨g, j, none⟩ = some (.int .i64 (dgt 256 n j : Nat))) := Lib.hid fun wr hbw j hj => by
      obtain ⟨g, cap, e, _, hg, hc, _⟩ := h.cell (j := j) (by rw [dl_length]; exact hj)
      injection e with e1 e2 e3
      rw [dlget3] at hc
      exact ⟨g, e1, (hbw.cell (p := ⟨g, j, none⟩) hg).trans hc⟩
    have hqI : (b : Int) / 8 = (q : Int) := by omega
    have hqt : (b : Int).tdiv 8 = (q : Int) := by rw [Int.tdiv_eq_ediv_of_nonneg (by omega)]; omega
    have hrI : (b : Int) % 8 = (r : Int) := by omega
    have hqb : q ≤ 1000000 := by omega
    clear h hL h0 hs hq hr hs128
    go_enter Tryz.func69, Tryz.ntmps69
    go_wp2_with (at_make; go_loud (refine wpList_make_zero _ rfl _ _ _ rfl 3 i0 _ Tryz.underlying124 hi0 hz0 hj1 .i64 .i64 _ _ q rfl rfl (by omega) (by omega) (by rw [hj2]; omega) (by unfold maxLen; omega) ?_))
    rw [zmade]
    have HO0 : Hid (Own (w.alloc (.cells (fcells .i64 (dgt 256 0) q) 3)) w.heap.size 3 .i64 (.slice (some ⟨w.heap.size, 0, none⟩) q q) (dl 256 (256 ^ q * (n * s)) (q + 0))) := Lib.hid (by
      rw [Nat.add_zero, low_zero]; exact Own.of_zero (Blk.new w 3 _) (Nat.le_refl _) (by omega))
    have hbl : Below w.heap.size w (w.alloc (.cells (fcells .i64 (dgt 256 0) q) 3)) := (Below.refl _ _).alloc (Nat.le_refl _) _
    generalize w.alloc (.cells (fcells .i64 (dgt 256 0) q) 3) = w1 at *
    go_loopw [5, 6, 7] (fun v m i wr => ∃ k mm : Nat, k ≤ L ∧ i = .int .i64 k ∧ m = .int .i64 mm ∧ Hid (mm = mca 256 n s 0 k) ∧ Hid (Own wr w.heap.size 3 .i64 v (dl 256 (256 ^ q * (n * s)) (q + k))) ∧ Below w.heap.size w wr) (fun _ _ i _ => L - (intOf i).toNat)
    case atStart => exact ⟨0, 0, Nat.zero_le _, rfl, rfl, Lib.hid (by rw [mca_zero]), HO0, hbl⟩
    case round =>
      obtain ⟨k, m, hk, rfl, rfl, hm, hown, hb⟩ := hrel
      by_cases hlt : k < L
      · obtain ⟨g, rfl, hc⟩ := hsrc.out wr hb k hlt
        obtain ⟨d, hd⟩ : ∃ d, d = dgt 256 n k := ⟨_, rfl⟩
        obtain ⟨x, hx⟩ : ∃ x, x = dgt 256 (n * s) k := ⟨_, rfl⟩
        obtain ⟨y, hy⟩ : ∃ y, y = mca 256 n s 0 (k + 1) := ⟨_, rfl⟩
        obtain ⟨S, HSS, htt, htd2, hSb, hd8, hm8, hx8, hy8⟩ := shf_num HS.out HS128.out hd hm.out hx hy
        rw [← hd] at hc
        have HX := Lib.hid (hx.trans (low_skip q (n * s) k).symm)
        have HY := Lib.hid hy
        have hlen : Hid ((dl 256 (256 ^ q * (n * s)) (q + k)).length + 1 ≤ 17592186044416) := Lib.hid (by rw [dl_length]; omega)
        clear hd hx hy
        go_wp2_with (at_builtin; simp only [HSS.out, htt]; go_loud (refine wpList_app1 wr rfl (.tmp 29) (.tmp 32) _ rfl w.heap.size 3 3 i0 .i64 8 Tryz.underlying124 hi0 hz0 hj1 hj2 (by omega) _ (dl 256 (256 ^ q * (n * s)) (q + k)) x rfl rfl hown.out hlen.out hb.size ?_); intro v5 w5 hown5 hb5 hfr5 hnw5)
        rw [HX.out, ← dl_succ] at hown5
        have HO5 := Lib.hid hown5
        clear hown5 hfr5 hnw5
        go_roundw
        case rel => exact ⟨k + 1, y, by omega, by go_num, rfl, HY, HO5, hb.trans hb5⟩
        case measure => simp [intOf]; omega
      · obtain rfl : k = L := by omega
        obtain ⟨hm2, hnd, hm8⟩ := shf_last HS128.out HLn.out hm.out q
        have HM2 := Lib.hid hm2
        have HND := Lib.hid hnd
        have hlen : Hid ((dl 256 (256 ^ q * (n * s)) (q + k)).length + 1 ≤ 17592186044416) := Lib.hid (by rw [dl_length]; omega)
        clear hm2 hnd hm hk hlt
        go_wp2_with (at_builtin; go_loud (refine wpList_app1 wr rfl (.tmp 36) (.tmp 38) _ rfl w.heap.size 3 3 i0 .i64 8 Tryz.underlying124 hi0 hz0 hj1 hj2 (by omega) _ (dl 256 (256 ^ q * (n * s)) (q + k)) m rfl rfl hown.out hlen.out hb.size ?_); intro v5 w5 hown5 hb5 hfr5 hnw5)
        rw [HM2.out, ← dl_succ] at hown5
        obtain ⟨A5, c5, rfl, hc5⟩ := hown5.len
        rw [dl_length] at hown5 ⊢
        have KC := Lib.hid (rCut3_c (256 ^ q * (n * s)) (q + k + 1) _ A5 c5 w5 HND.out (by omega) hown5)
        have HO5 := Lib.hid hown5
        clear hown5 hfr5 hnw5 hc5
        go_wp2_with fail
        refine KC.out.mono ?_
        rintro e w6 ⟨rfl, rfl⟩
        go_wp2_with fail
        go_ret
        rw [HE.out]
        exact ⟨_, _, rfl, HO5.out.cut HND.out, hb.trans hb5⟩
end Go.Proofs.YtjalpocjgpgcfaaGreatDoor
set_option linter.unusedSimpArgs false
set_option linter.unusedVariables false
namespace Go.Proofs.YtjalpocjgpgcfaaGreatDoor
open Go Go.RowKit Nt

theorem plus_num3 {x y k q d e : Nat} (hq : q = car 256 x y k) (hd : d = dgt 256 (x + y) k) (he : e = car 256 x y (k + 1)) :
    q ≤ 1 ∧ (q + dgt 256 x k + dgt 256 y k) % 256 = d ∧ (q + dgt 256 x k + dgt 256 y k) / 256 = e ∧ dgt 256 x k < 256 ∧ dgt 256 y k < 256 ∧ d < 256 ∧ e ≤ 1 := by
  have h1 := car_le (b := 256) (by omega) x y k
  have h2 := dgt_add (b := 256) (by omega) x y k
  have h3 := car_succ (b := 256) (by omega) x y k
  have h4 := dgt_lt (b := 256) (by omega) x k
  have h5 := dgt_lt (b := 256) (by omega) y k
  have h6 := car_le (b := 256) (by omega) x y (k + 1)
  rw [← hq] at h1 h2 h3
  rw [← hd] at h2
  rw [← he] at h3 h6
  exact ⟨h1, by omega, by omega, h4, h5, by omega, h6⟩
theorem sum3_i3 {q a b d e : Nat} (h1 : (q + a + b) % 256 = d) (h2 : (q + a + b) / 256 = e) : ((q : Int) + (a : Int) + (b : Int)) % 256 = (d : Int) ∧ ((q : Int) + (a : Int) + (b : Int)).tdiv 256 = (e : Int) :=
  ⟨by omega, by rw [Int.tdiv_eq_ediv_of_nonneg (by omega)]; omega⟩
theorem plus_last {x y M q : Nat} (hx : nd 256 x ≤ M) (hy : nd 256 y ≤ M) (hq : q = car 256 x y M) : q = dgt 256 (x + y) M ∧ nd 256 (x + y) ≤ M + 1 ∧ q ≤ 1 := by
  have h1 := (lt_pow_iff (b := 256) (by omega) M x).2 hx
  have h2 := (lt_pow_iff (b := 256) (by omega) M y).2 hy
  refine ⟨hq.trans (car_last (by omega) x y M h1 h2), nd_le (by omega) ?_, by rw [hq]; exact car_le (by omega) _ _ _⟩
  rw [Nat.pow_succ]; omega
set_option maxRecDepth 100000 in
set_option maxHeartbeats 1000000 in
theorem rPlus3_c (x y B B' : Nat) (A A' : Option Addr) (c c' : Nat) (w : World) (hx : nd 256 x ≤ 1000000) (hy : nd 256 y ≤ 1000000) (h : Own w B 3 .i64 (.slice A (nd 256 x) c) (dl 256 x (nd 256 x))) (h' : Own w B' 3 .i64 (.slice A' (nd 256 y) c') (dl 256 y (nd 256 y))) :
    Calls Tryz.prog 104 #[.slice A (nd 256 x) c, .slice A' (nd 256 y) c'] w (BigP (x + y) w) := by
  obtain ⟨i0, hi0, hz0, hj1, hj2⟩ := info_parts (P := Tryz.prog) (e := 3) (z := .int .i64 0) (size := 1) (bytes := 8) (by kernel_rfl)
  obtain ⟨X, hX⟩ : ∃ X, X = nd 256 x := ⟨_, rfl⟩
  obtain ⟨Y, hY⟩ : ∃ Y, Y = nd 256 y := ⟨_, rfl⟩
  obtain ⟨M, hM1, hM2, hM3, hM4⟩ : ∃ M, X ≤ M ∧ Y ≤ M ∧ M ≤ 1000000 ∧ (M = X ∨ M = Y) := ⟨max X Y, by omega, by omega, by omega, by omega⟩
  rw [← hX] at h hx ⊢
  rw [← hY] at h' hy ⊢
  have HX := Lib.hid hX
  have HY := Lib.hid hY
  have HO1 := Lib.hid h
  have HO2 := Lib.hid h'
  have HM4 := Lib.hid hM4
  clear hX hY h h' hM4
  go_enter Tryz.func104, Tryz.ntmps104
  go_wp2_with fail
  go_loopw [5, 6, 7] (fun v m i wr => ∃ (k q : Nat), k ≤ M ∧ i = .int .i64 k ∧ m = .int .i64 q ∧ Hid (q = car 256 x y k) ∧ Hid (Own wr w.heap.size 3 .i64 v (dl 256 (x + y) k)) ∧ Below w.heap.size w wr) (fun _ _ i _ => M - (intOf i).toNat)
  case atStart => exact ⟨0, 0, by omega, rfl, rfl, Lib.hid (car_zero _ _ _).symm, Lib.hid (Own.nil _ _ _ _), Below.refl _ _⟩
  case round =>
    obtain ⟨k, q, hk, rfl, rfl, hq, hown, hb⟩ := hrel
    by_cases hlt : k < M
    · obtain ⟨d, hd⟩ : ∃ d, d = dgt 256 (x + y) k := ⟨_, rfl⟩
      obtain ⟨e, he⟩ : ∃ e, e = car 256 x y (k + 1) := ⟨_, rfl⟩
      obtain ⟨hq1, hdd, hee, ha, hbb, hd256, he1⟩ := plus_num3 hq.out hd he
      have K1 := rAt3_c x X k _ A c wr (by have := HX.out; omega) (by omega) (by omega) (HO1.out.below hb (fun g e => (HO1.out.lt g e).2))
      have K2 := rAt3_c y Y k _ A' c' wr (by have := HY.out; omega) (by omega) (by omega) (HO2.out.below hb (fun g e => (HO2.out.lt g e).2))
      generalize dgt 256 x k = a at *
      generalize dgt 256 y k = b at *
      have H1 := Lib.hid K1
      have H2 := Lib.hid K2
      have hw1 : wrap64 ((q : Int) + (a : Int)) = (q : Int) + (a : Int) := IntWalk.wrap64_in _ (by omega)
      obtain ⟨hdI, hqq⟩ := sum3_i3 hdd hee
      have hlen : Hid ((dl 256 (x + y) k).length + 1 ≤ 17592186044416) := Lib.hid (by rw [dl_length]; omega)
      have HD := Lib.hid hd
      have HE := Lib.hid he
      clear K1 K2 hd hdd hee he
      have hcase : k < X ∨ (¬ k < X ∧ k < Y) := by
        rcases HM4.out with e | e
        · exact Or.inl (e ▸ hlt)
        · by_cases c : k < X
          · exact Or.inl c
          · exact Or.inr ⟨c, e ▸ hlt⟩
      have hkb : k ≤ 900000000 := by omega
      have HKM := Lib.hid hlt
      have HM1 := Lib.hid hM1
      have HM2 := Lib.hid hM2
      clear hlt hk hM1 hM2 hM3 hx hy
      rcases hcase with h | ⟨h, h'⟩
      all_goals
        go_wp2_with fail
        refine H1.out.mono ?_
        rintro e w' ⟨rfl, rfl⟩
        go_wp2_with fail
        refine H2.out.mono ?_
        rintro e w' ⟨rfl, rfl⟩
        go_wp2_with (at_builtin; go_loud (refine wpList_app1 wr rfl (.tmp 29) (.tmp 32) _ rfl w.heap.size 3 3 i0 .i64 8 Tryz.underlying124 hi0 hz0 hj1 hj2 (by omega) _ (dl 256 (x + y) k) d rfl rfl hown.out hlen.out hb.size ?_); intro v5 w5 hown5 hb5 hfr5 hnw5)
        rw [HD.out, ← dl_succ] at hown5
        have HO5 := Lib.hid hown5
        clear hown5 hfr5 hnw5
        go_roundw
        case rel => exact ⟨k + 1, _, by have := HKM.out; omega, by go_num, rfl, HE, HO5, hb.trans hb5⟩
        case measure =>
          have := HKM.out
          clear hdI hqq hw1 hq1
          simp [intOf]; omega
    · obtain rfl : k = M := by omega
      obtain ⟨hm2, hnd, hm8⟩ := plus_last (by have := HX.out; omega) (by have := HY.out; omega) hq.out
      have HM2 := Lib.hid hm2
      have HND := Lib.hid hnd
      have hlen : Hid ((dl 256 (x + y) k).length + 1 ≤ 17592186044416) := Lib.hid (by rw [dl_length]; omega)
      have h1 : ¬ k < X := by omega
      have h2 : ¬ k < Y := by omega
      clear hm2 hnd hq hlt
      go_wp2_with (at_builtin; go_loud (refine wpList_app1 wr rfl (.tmp 36) (.tmp 38) _ rfl w.heap.size 3 3 i0 .i64 8 Tryz.underlying124 hi0 hz0 hj1 hj2 (by omega) _ (dl 256 (x + y) k) q rfl rfl hown.out hlen.out hb.size ?_); intro v5 w5 hown5 hb5 hfr5 hnw5)
      rw [HM2.out, ← dl_succ] at hown5
      obtain ⟨A5, c5, rfl, hc5⟩ := hown5.len
      rw [dl_length] at hown5 ⊢
      have KC := Lib.hid (rCut3_c (x + y) (k + 1) _ A5 c5 w5 HND.out (by omega) hown5)
      have HO5 := Lib.hid hown5
      clear hown5 hfr5 hnw5 hc5
      go_wp2_with fail
      refine KC.out.mono ?_
      rintro e w6 ⟨rfl, rfl⟩
      go_wp2_with fail
      go_ret
      exact ⟨_, _, rfl, HO5.out.cut HND.out, hb.trans hb5⟩
theorem sub_step3 (x y k : Nat) (h : y ≤ x) :
    (dgt 256 x k < dgt 256 y k + bor 256 x y k → dgt 256 (x - y) k + dgt 256 y k + bor 256 x y k = dgt 256 x k + 256 ∧ bor 256 x y (k + 1) = 1) ∧
    (¬ dgt 256 x k < dgt 256 y k + bor 256 x y k → dgt 256 (x - y) k + dgt 256 y k + bor 256 x y k = dgt 256 x k ∧ bor 256 x y (k + 1) = 0) := by
  have h1 := dgt_sub (b := 256) (by omega) x y k h
  have h2 := bor_succ (b := 256) (by omega) x y k
  have h3 := bor_le 256 x y k
  have h4 := dgt_lt (b := 256) (by omega) x k
  have h5 := dgt_lt (b := 256) (by omega) y k
  refine ⟨fun c => ?_, fun c => ?_⟩
  · rw [if_pos c] at h2
    exact ⟨by omega, h2⟩
  · rw [if_neg c] at h2
    exact ⟨by omega, h2⟩
theorem nd_sub (x y : Nat) : nd 256 (x - y) ≤ nd 256 x := nd_mono (by omega) (Nat.sub_le _ _)
set_option maxRecDepth 100000 in
set_option maxHeartbeats 1000000 in
theorem rMinus3_c (x y B B' : Nat) (A A' : Option Addr) (c c' : Nat) (w : World) (hle : y ≤ x) (hx : nd 256 x ≤ 1000000) (h : Own w B 3 .i64 (.slice A (nd 256 x) c) (dl 256 x (nd 256 x))) (h' : Own w B' 3 .i64 (.slice A' (nd 256 y) c') (dl 256 y (nd 256 y))) :
    Calls Tryz.prog 105 #[.slice A (nd 256 x) c, .slice A' (nd 256 y) c'] w (BigP (x - y) w) := by
  obtain ⟨i0, hi0, hz0, hj1, hj2⟩ := info_parts (P := Tryz.prog) (e := 3) (z := .int .i64 0) (size := 1) (bytes := 8) (by kernel_rfl)
  have hy : nd 256 y ≤ 1000000 := Nat.le_trans (nd_mono (by omega) hle) hx
  have hnd := nd_sub x y
  obtain ⟨X, hX⟩ : ∃ X, X = nd 256 x := ⟨_, rfl⟩
  obtain ⟨Y, hY⟩ : ∃ Y, Y = nd 256 y := ⟨_, rfl⟩
  rw [← hX] at h hx hnd ⊢
  rw [← hY] at h' hy ⊢
  have HX := Lib.hid hX
  have HY := Lib.hid hY
  have HO3 := Lib.hid h
  have HO2 := Lib.hid h'
  have HLE := Lib.hid hle
  have HND := Lib.hid hnd
  clear hX hY h h' hle hnd
  go_enter Tryz.func105, Tryz.ntmps105
  go_wp2_with fail
  go_loopw [5, 6, 7] (fun v m i wr => ∃ (k q : Nat), k ≤ X ∧ i = .int .i64 k ∧ m = .int .i64 q ∧ Hid (q = bor 256 x y k) ∧ Hid (Own wr w.heap.size 3 .i64 v (dl 256 (x - y) k)) ∧ Below w.heap.size w wr) (fun _ _ i _ => X - (intOf i).toNat)
  case atStart => exact ⟨0, 0, by omega, rfl, rfl, Lib.hid (bor_zero _ _ _).symm, Lib.hid (Own.nil _ _ _ _), Below.refl _ _⟩
  case round =>
    obtain ⟨k, q, hk, rfl, rfl, hq, hown, hb⟩ := hrel
    by_cases hlt : k < X
    · obtain ⟨d, hd⟩ : ∃ d, d = dgt 256 (x - y) k := ⟨_, rfl⟩
      obtain ⟨st1, st2⟩ := sub_step3 x y k HLE.out
      rw [← hq.out, ← hd] at st1 st2
      have ha := dgt_lt (b := 256) (by omega) x k
      have hb' := dgt_lt (b := 256) (by omega) y k
      have hd2 := dgt_lt (b := 256) (by omega) (x - y) k
      have hq1 := bor_le 256 x y k
      rw [← hd] at hd2
      rw [← hq.out] at hq1
      obtain ⟨g, cap, e1, _, hg, hcell, hfz⟩ := (HO3.out.below hb (fun g e => (HO3.out.lt g e).2)).cell (j := k) (by rw [dl_length]; exact hlt)
      injection e1 with e1 e2 e3
      subst e1
      rw [dlget3] at hcell
      have K2 := fun m => rAt3_c y Y k _ A' c' (wr.drewN m) (by have := HY.out; omega) (by omega) (by omega) ((HO2.out.below hb (fun g e => (HO2.out.lt g e).2)).drewN m)
      generalize dgt 256 x k = a at *
      generalize dgt 256 y k = b at *
      have H2 := Lib.hid K2
      have HD := Lib.hid hd
      have hlen : Hid ((dl 256 (x - y) k).length + 1 ≤ 17592186044416) := Lib.hid (by rw [dl_length]; omega)
      have hw1 : IntKind.i64.wrap ((a : Int) - (b : Int)) = (a : Int) - (b : Int) := IntWalk.i64_in _ (by omega)
      have hw2 : IntKind.i64.wrap ((a : Int) - (b : Int) - (q : Int)) = (a : Int) - (b : Int) - (q : Int) := IntWalk.i64_in _ (by omega)
      clear K2 hd hfz e2 e3
      have hkb : k ≤ 1000000 := by omega
      have HKX := Lib.hid hlt
      have HST1 := Lib.hid st1
      have HST2 := Lib.hid st2
      clear st1 st2 hk
      by_cases hc : a < b + q
      · obtain ⟨s1, s2⟩ := HST1.out hc
        have HB := Lib.hid s2.symm
        have hdd : (a : Int) - (b : Int) - (q : Int) + 256 = (d : Int) := by omega
        have hneg : (a : Int) - (b : Int) - (q : Int) < 0 := by omega
        clear s1 s2 hc
        go_wp2_with fail
        go_quiet ((go_at_call 128; exact Calls.quiet_of_same ((H2.out _).mono fun _ _ h => ⟨h.1, h.2.symm⟩)))
        rename_i nq
        have hbq := below_drewN hb nq
        have hownq := Lib.hid (hown.out.drewN nq)
        generalize wr.drewN nq = wq at *
        go_wp2_with (at_builtin; go_loud (refine wpList_app1 wq rfl (.tmp 29) (.tmp 31) _ rfl w.heap.size 3 3 i0 .i64 8 Tryz.underlying124 hi0 hz0 hj1 hj2 (by omega) _ (dl 256 (x - y) k) d rfl rfl hownq.out hlen.out hbq.size ?_); intro v5 w5 hown5 hb5 hfr5 hnw5)
        rw [HD.out, ← dl_succ] at hown5
        have HO5 := Lib.hid hown5
        clear hown5 hfr5 hnw5
        go_roundw
        case rel => exact ⟨k + 1, 1, by have := HKX.out; omega, by go_num, rfl, HB, HO5, hbq.trans hb5⟩
        case measure =>
          have := HKX.out
          clear hw1 hw2 hdd hneg
          simp [intOf]; omega
      · obtain ⟨s1, s2⟩ := HST2.out hc
        have HB := Lib.hid s2.symm
        have hdz : (a : Int) - (b : Int) - (q : Int) = (d : Int) := by omega
        have hd0 : ¬ (d : Int) < 0 := by omega
        clear s1 s2 hc
        go_wp2_with fail
        go_quiet ((go_at_call 128; exact Calls.quiet_of_same ((H2.out _).mono fun _ _ h => ⟨h.1, h.2.symm⟩)))
        rename_i nq
        have hbq := below_drewN hb nq
        have hownq := Lib.hid (hown.out.drewN nq)
        generalize wr.drewN nq = wq at *
        go_wp2_with (at_builtin; go_loud (refine wpList_app1 wq rfl (.tmp 29) (.tmp 31) _ rfl w.heap.size 3 3 i0 .i64 8 Tryz.underlying124 hi0 hz0 hj1 hj2 (by omega) _ (dl 256 (x - y) k) d rfl rfl hownq.out hlen.out hbq.size ?_); intro v5 w5 hown5 hb5 hfr5 hnw5)
        rw [HD.out, ← dl_succ] at hown5
        have HO5 := Lib.hid hown5
        clear hown5 hfr5 hnw5
        go_roundw
        case rel => exact ⟨k + 1, 0, by have := HKX.out; omega, by go_num, rfl, HB, HO5, hbq.trans hb5⟩
        case measure =>
          have := HKX.out
          clear hw1 hw2 hdz
          simp [intOf]; omega
    · obtain rfl : k = X := by omega
      obtain ⟨A5, c5, rfl, hc5⟩ := hown.out.len
      have hown5 := hown.out
      rw [dl_length] at hown5 ⊢
      have KC := Lib.hid (rCut3_c (x - y) k _ A5 c5 wr HND.out (by omega) hown5)
      have HO5 := Lib.hid hown5
      clear hown5 hc5 hown
      go_wp2_with fail
      refine KC.out.mono ?_
      rintro e w6 ⟨rfl, rfl⟩
      go_wp2_with fail
      go_ret
      exact ⟨_, _, rfl, HO5.out.cut HND.out, hb⟩
end Go.Proofs.YtjalpocjgpgcfaaGreatDoor
set_option linter.unusedSimpArgs false
set_option linter.unusedVariables false
namespace Go.Proofs.YtjalpocjgpgcfaaGreatDoor
open Go Go.RowKit Nt

/-- The digits of a number stand at A. -/
def DRow (w : World) (A : Option Addr) (n L : Nat) : Prop := ∀ j, j < L → ∃ g, A = some ⟨g, 0, none⟩ ∧ g < w.heap.size ∧ w.cell? ⟨g, j, none⟩ = some (.int .i64 (dgt 256 n j : Nat))
theorem Own.drow {w : World} {B : Nat} {T : TypeId} {A : Option Addr} {L c n : Nat} (h : Own w B T .i64 (.slice A L c) (dl 256 n L)) : DRow w A n L := fun j hj => by
  obtain ⟨g, cap, e, _, hg, hc, _⟩ := h.cell (j := j) (by rw [dl_length]; exact hj)
  injection e with e1 e2 e3
  rw [dlget3] at hc
  exact ⟨g, e1, hg, hc⟩
set_option maxHeartbeats 400000 in
theorem rCmp3_c (a b B B' : Nat) (A A' : Option Addr) (c c' : Nat) (w : World) (hL : nd 256 a ≤ 1000000) (hL' : nd 256 b ≤ 1000000) (hr : Own w B 3 .i64 (.slice A (nd 256 a) c) (dl 256 a (nd 256 a))) (hr' : Own w B' 3 .i64 (.slice A' (nd 256 b) c') (dl 256 b (nd 256 b))) :
    Calls Tryz.prog 70 #[.slice A (nd 256 a) c, .slice A' (nd 256 b) c'] w fun e w' => e = .returned (.int .i64 (cmpN a b)) ∧ ∃ n, w' = w.drewN n := by
  have HR := Lib.hid hr.drow
  have HR' := Lib.hid hr'.drow
  clear hr hr'
  rcases Nat.lt_trichotomy (nd 256 a) (nd 256 b) with h | h | h
  · have hn : ((nd 256 a : Int) != (nd 256 b : Int)) = true := by rw [bne_iff_ne]; omega
    have HC := Lib.hid (cmpN_lt (lt_of_nd (b := 256) (by omega) h))
    go_enter Tryz.func70, Tryz.ntmps70
    go_wp2
    go_ret
    exact ⟨ret_int HC.out.symm, 0, rfl⟩
  · have ha := lt_nd (b := 256) (n := a) (by omega)
    have hb := lt_nd (b := 256) (n := b) (by omega)
    rw [← h] at hb hL' HR' ⊢
    have HA := Lib.hid ha
    have HB := Lib.hid hb
    have HE := Lib.hid h
    clear ha hb h
    obtain ⟨L, hLe⟩ : ∃ L, L = nd 256 a := ⟨_, rfl⟩
    have hLL : L ≤ 1000000000 := by omega
    rw [← hLe] at HA HB HR HR' ⊢
    have hw : wrap64 ((L : Int) - 1) = (L : Int) - 1 := IntWalk.wrap64_in _ (by omega)
    have hn : ((L : Int) != (L : Int)) = false := by simp
    have HLE := Lib.hid hLe
    clear hLe
    go_enter Tryz.func70, Tryz.ntmps70
    go_wp2
    go_loopw [5] (fun i wr => ∃ (k : Nat) (z : Int) (m : Nat), k ≤ L ∧ i = .int .i64 z ∧ Hid (z = (k : Int) - 1) ∧ Hid (∀ j, k ≤ j → j < L → dgt 256 a j = dgt 256 b j) ∧ wr = w.drewN m) (fun i _ => (intOf i + 1).toNat)
    case atStart => exact ⟨L, _, 0, Nat.le_refl _, rfl, Lib.hid rfl, Lib.hid (fun j h1 h2 => by omega), rfl⟩
    case round =>
      obtain ⟨k, z, mm, hk, rfl, hz, hd, rfl⟩ := hrel
      by_cases h0 : k = 0
      · subst h0
        obtain rfl : z = -1 := by have := hz.out; omega
        go_wp2
        go_ret
        refine ⟨ret_int ?_, _, rfl⟩
        obtain rfl : a = b := eq_of_digits HA.out HB.out (fun i hi => hd.out i (by omega) hi)
        exact (cmpN_eq _).symm
      · obtain ⟨m, rfl⟩ : ∃ m, k = m + 1 := ⟨k - 1, by omega⟩
        obtain rfl : z = (m : Int) := by have := hz.out; omega
        obtain ⟨g, rfl, _, hc⟩ := HR.out m (by omega)
        obtain ⟨g', rfl, _, hc'⟩ := HR'.out m (by omega)
        have hm : m < L := by omega
        have hw : wrap64 ((m : Int) - 1) = (m : Int) - 1 := IntWalk.wrap64_in _ (by omega)
        rcases Nat.lt_trichotomy (dgt 256 a m) (dgt 256 b m) with hlt | heq | hgt
        · have HC := Lib.hid (cmpN_lt (lt_of_digit (b := 256) (by omega) HA.out HB.out hm hd.out hlt))
          have h1 : (((dgt 256 a m : Nat) : Int) != ((dgt 256 b m : Nat) : Int)) = true := by rw [bne_iff_ne]; omega
          go_wp2
          go_quiet (fail)
          go_wp2
          go_quiet (fail)
          go_wp2
          go_ret
          exact ⟨ret_int HC.out.symm, by first | exact Drawn.more ⟨_, rfl⟩ _ | exact Drawn.more (Drawn.more ⟨_, rfl⟩ _) _⟩
        · have HD := Lib.hid heq
          have h1 : (((dgt 256 a m : Nat) : Int) != ((dgt 256 b m : Nat) : Int)) = false := by rw [bne_eq_false_iff_eq]; omega
          clear heq
          go_wp2
          go_quiet (fail)
          go_wp2
          go_roundw
          case rel => exact ⟨m, _, _, by omega, rfl, Lib.hid rfl, Lib.hid (fun j h1 h2 => by
            rcases Nat.lt_or_ge m j with h3 | h3
            · exact hd.out j h3 h2
            · obtain rfl : j = m := by omega
              exact HD.out), rfl⟩
          case measure => simp [intOf]
        · have HC := Lib.hid (cmpN_gt (lt_of_digit (b := 256) (by omega) HB.out HA.out hm (fun j h1 h2 => (hd.out j h1 h2).symm) hgt))
          have h1 : (((dgt 256 a m : Nat) : Int) != ((dgt 256 b m : Nat) : Int)) = true := by rw [bne_iff_ne]; omega
          have h2 : ¬ dgt 256 a m < dgt 256 b m := by omega
          go_wp2
          go_quiet (fail)
          go_wp2
          go_quiet (fail)
          go_wp2
          go_ret
          exact ⟨ret_int HC.out.symm, by first | exact Drawn.more ⟨_, rfl⟩ _ | exact Drawn.more (Drawn.more ⟨_, rfl⟩ _) _⟩
  · have hn : ((nd 256 a : Int) != (nd 256 b : Int)) = true := by rw [bne_iff_ne]; omega
    have HC := Lib.hid (cmpN_gt (lt_of_nd (b := 256) (by omega) h))
    have h2 : ¬ nd 256 a < nd 256 b := by omega
    go_enter Tryz.func70, Tryz.ntmps70
    go_wp2
    go_ret
    exact ⟨ret_int HC.out.symm, 0, rfl⟩
theorem halv_dgt (n q r j : Nat) (hr : r < 8) : dgt 256 (n / 2 ^ (8 * q + r)) j = (dgt 256 n (q + j) + 256 * dgt 256 n (q + j + 1)) / 2 ^ r % 256 := by
  have e : n / 2 ^ (8 * q + r) = n / 256 ^ q / 2 ^ r := by
    rw [Nat.pow_add, Nat.pow_mul, Nat.div_div_eq_div_mul]
  rw [e]
  have h := dgt_shr (e := 8) (n / 256 ^ q) r j (by omega)
  rw [show (2 : Nat) ^ 8 = 256 from rfl, dgt_skip, dgt_skip, Nat.add_comm j q, Nat.add_right_comm j 1 q, Nat.add_comm j q] at h
  rw [h]
  have h1 := dgt_lt (b := 256) (by omega) n (q + j)
  have h2 := dgt_lt (b := 256) (by omega) n (q + j + 1)
  generalize dgt 256 n (q + j) = a at *
  generalize dgt 256 n (q + j + 1) = b at *
  clear h e
  have : r = 0 ∨ r = 1 ∨ r = 2 ∨ r = 3 ∨ r = 4 ∨ r = 5 ∨ r = 6 ∨ r = 7 := by omega
  rcases this with rfl | rfl | rfl | rfl | rfl | rfl | rfl | rfl <;> simp <;> omega
theorem hv_int {a b r x : Nat} (h1 : a < 256) (h2 : b < 256) (hx : (a + 256 * b) / 2 ^ r % 256 = x) :
    ∃ S T : Nat, Hid (S = a + 256 * b) ∧ IntKind.i64.wrap ((256 : Int) * (b : Int)) = 256 * (b : Int) ∧ IntKind.i64.wrap ((a : Int) + 256 * (b : Int)) = (S : Int) ∧ Hid ((S : Int) / 2 ^ r = (T : Int)) ∧ (T : Int).tmod 256 = (x : Int) ∧ S ≤ 65535 ∧ T ≤ 65535 ∧ x < 256 := by
  refine ⟨a + 256 * b, (a + 256 * b) / 2 ^ r, Lib.hid rfl, IntWalk.i64_in _ (by clear hx; omega), ?_, Lib.hid (by rw [int_pow2, Int.natCast_ediv]), ?_, by clear hx; omega, Nat.le_trans (Nat.div_le_self _ _) (by clear hx; omega), by rw [← hx]; exact Nat.mod_lt _ (by omega)⟩
  · rw [IntWalk.i64_in _ (by clear hx; omega)]; rw [Int.natCast_add, Int.natCast_mul]; rfl
  · exact mod_int hx
theorem halv_nd {n q r L k : Nat} (h : nd 256 n ≤ L) (hk : L ≤ q + k) : nd 256 (n / 2 ^ (8 * q + r)) ≤ k := by
  refine nd_le (by omega) ?_
  have h1 := (lt_pow_iff (b := 256) (by omega) L n).2 h
  rw [Nat.div_lt_iff_lt_mul (Nat.two_pow_pos _)]
  have h2 : 256 ^ L ≤ 256 ^ k * 2 ^ (8 * q + r) := by
    rw [Nat.pow_add, Nat.pow_mul, show (2 : Nat) ^ 8 = 256 from rfl, ← Nat.mul_assoc, ← Nat.pow_add]
    exact Nat.le_trans (Nat.pow_le_pow_right (by omega) (by omega)) (Nat.le_mul_of_pos_right _ (Nat.two_pow_pos _))
  omega
end Go.Proofs.YtjalpocjgpgcfaaGreatDoor
set_option linter.unusedSimpArgs false
set_option linter.unusedVariables false
namespace Go.Proofs.YtjalpocjgpgcfaaGreatDoor
open Go Go.RowKit Nt

theorem step_app1 {P : Program} (W : World) {ops : Array Oper} {o : Oper} {a : Act} {K : Act → World → Prop} {Q : Exit → Act → World → Prop} {E : Prop} (hgd : o.guard = none) (s x : Operand) (t : TypeId)
    (ho : o.op = .call { callee := .builtin .append, args := #[s, x], argTypes := #[t, t] })
    (B : Nat) (e : TypeId) (i : TypeInfo) (k : IntKind) (bytes : Nat) (ht : P.underlying t = some (.slice e)) (hi : P.info? e = some i) (hz : i.zero = some (.int k 0))
    (hsize : i.size = 1) (hby : i.bytes = bytes) (hb8 : bytes ≤ 8)
    (v : Value) (l : List Nat) (y : Nat) (ad : Addr) (hs : a.eval s = v) (hx : a.eval x = .slice (some ad) 1 1) (hcx : W.cell? ad = some (.int k (y : Nat))) (hown : Own W B e k v l)
    (hn : l.length + 1 ≤ 17592186044416) (hB : B ≤ W.heap.size)
    (h : ∀ v' w', Own w' B e k v' (l ++ [y]) → Below B W w' → K (a.put o.dst v') w') :
    if Region.wanted o (yielded ops a.tmps) = true then Oper.wp P o a W K Q else E := by
  have hw : Region.wanted o (yielded ops a.tmps) = true := by simp [Region.wanted, hgd]
  rw [if_pos hw]
  have hbytes : (l.length + 1) * bytes ≤ 140737488355328 := by
    have h1 : (l.length + 1) * bytes ≤ (l.length + 1) * 8 := Nat.mul_le_mul_left _ hb8
    omega
  obtain ⟨v', w', hrun, h2, hg, _, h5⟩ := run_append_own_at (P := P) W B t o.type e i (.int k 0) 1 bytes ht hi hz hsize hby rfl (by omega) v l.length (l.map (fun (x : Nat) => Value.int k (x : Int))) hown
    ad 1 1 [.int k (y : Nat)] rfl (by
      intro j u hu
      have hj : j = 0 := by
        rcases Nat.lt_or_ge j 1 with h | h
        · omega
        · rw [List.getElem?_eq_none (by simpa using h)] at hu; cases hu
      subst hj
      have e0 : ad.add 0 = ad := by unfold Addr.add; simp
      rw [e0, hcx]
      exact hu) (by
      intro u hu
      rw [List.mem_singleton.1 hu]; rfl) (by simp [maxLen]; omega) hbytes hB
  unfold Oper.wp execOp
  simp only [ho, resolve, invoke, builtin, Sem.run_bind, Sem.run_pure, Result.andThen_ok, List.map_toArray, List.map_cons, List.map_nil, hs, hx, hrun]
  refine h v' w' ?_ ?_
  · unfold Own
    simpa using h2
  · exact Below.grown (Below.refl _ _) hg hB (fun g e => (hown.lt g e).1)
set_option maxRecDepth 100000 in
set_option maxHeartbeats 1000000 in
theorem rHalved3_c (n q r B : Nat) (A : Option Addr) (c : Nat) (w : World) (hr : r < 8) (hq : q ≤ 1000000) (hn : nd 256 n ≤ 1000000) (h : Own w B 3 .i64 (.slice A (nd 256 n) c) (dl 256 n (nd 256 n))) :
    Calls Tryz.prog 127 #[.slice A (nd 256 n) c, .int .i64 ((8 * q + r : Nat) : Int)] w (BigP (n / 2 ^ (8 * q + r)) w) := by
  obtain ⟨i0, hi0, hz0, hj1, hj2⟩ := info_parts (P := Tryz.prog) (e := 3) (z := .int .i64 0) (size := 1) (bytes := 8) (by kernel_rfl)
  have hdd := halv_dgt n q r
  have hnn := @halv_nd n q r
  obtain ⟨b, hbe⟩ : ∃ b, b = 8 * q + r := ⟨_, rfl⟩
  obtain ⟨z, hz⟩ : ∃ z, z = n / 2 ^ b := ⟨_, rfl⟩
  rw [← hbe] at hdd hnn ⊢
  rw [← hz] at hdd ⊢
  have hbq : (b : Int).tdiv 8 = (q : Int) := by rw [Int.tdiv_eq_ediv_of_nonneg (by omega)]; omega
  have hbr : IntKind.i64.wrap ((b : Int).tmod 8) = (r : Int) := by
    rw [Int.tmod_eq_emod_of_nonneg (by omega), IntWalk.i64_in _ (by omega)]; omega
  have hbr2 : (b : Int).tmod 8 = (r : Int) := by rw [Int.tmod_eq_emod_of_nonneg (by omega)]; omega
  have hnz : ∀ {L k : Nat}, nd 256 n ≤ L → L ≤ q + k → nd 256 z ≤ k := fun h1 h2 => by rw [hz]; exact hnn h1 h2
  obtain ⟨L, hL⟩ : ∃ L, L = nd 256 n := ⟨_, rfl⟩
  rw [← hL] at h hn ⊢
  have HL := Lib.hid hL
  have HO := Lib.hid h
  have HDD := Lib.hid (fun j => hdd j hr)
  have HNZ := Lib.hid (fun k => @hnz L k (by rw [hL]; exact Nat.le_refl _))
  clear hL h hdd hnn hnz hz hbe
  go_enter Tryz.func127, Tryz.ntmps127
  go_wp2_with fail
  go_loopw [5, 6] (fun v i wr => ∃ (k p : Nat), (p = q + k) ∧ (k = 0 ∨ p ≤ L) ∧ i = .int .i64 p ∧ Hid (Own wr w.heap.size 3 .i64 v (dl 256 z k)) ∧ Below w.heap.size w wr) (fun _ i _ => L - (intOf i).toNat)
  case atStart => exact ⟨0, q, by omega, Or.inl rfl, rfl, Lib.hid (Own.nil _ _ _ _), Below.refl _ _⟩
  case round =>
    obtain ⟨k, p, hp, hpk, rfl, hown, hb⟩ := hrel
    rename_i u5 _
    by_cases hlt : p < L
    · have HDk := HDD.out k
      rw [← hp] at HDk
      obtain ⟨g, hA, hg, hcell⟩ := HO.out.drow p hlt
      have hcw := (hb.cell (p := ⟨g, p, none⟩) hg).trans hcell
      subst hA
      have hpI : (p : Int) + 1 = ((p + 1 : Nat) : Int) := by omega
      have ha := dgt_lt (b := 256) (by omega) n p
      have hb' := dgt_lt (b := 256) (by omega) n (p + 1)
      have K2 := fun wx (hx : Below w.heap.size w wx) => rAt3_c n L (p + 1) _ _ c wx (by have := HL.out; omega) (by omega) (by omega) (HO.out.below hx (fun g e => (HO.out.lt g e).2))
      obtain ⟨x, hx⟩ : ∃ x, x = dgt 256 z k := ⟨_, rfl⟩
      rw [← hx] at HDk
      have HX := Lib.hid hx
      obtain ⟨p1, hp1⟩ : ∃ p1, p1 = p + 1 := ⟨_, rfl⟩
      rw [← hp1] at hpI hb' K2 HDk
      generalize dgt 256 n p = a at *
      generalize dgt 256 n p1 = b2 at *
      obtain ⟨S, T, HS, hw1, hw2, HT, htm, hS1, hT1, hx8⟩ := hv_int ha hb' HDk.symm
      have H2 := Lib.hid K2
      have hlen : Hid ((dl 256 z k).length + 1 ≤ 17592186044416) := Lib.hid (by rw [dl_length]; omega)
      have hwp : IntKind.i64.wrap (p1 : Int) = (p1 : Int) := IntWalk.i64_in _ (by omega)
      have HP := Lib.hid hp
      have HP1 := Lib.hid hp1
      have HLT := Lib.hid hlt
      have HNEW : Hid (((wr.alloc (.cells #[.int .i64 (x : Nat)] 3)).drew).cell? ⟨wr.heap.size, 0, none⟩ = some (.int .i64 (x : Nat))) := Lib.hid (show (wr.alloc (.cells #[.int .i64 (x : Nat)] 3)).cell? ⟨wr.heap.size, 0, none⟩ = _ from (World.cell?_alloc_at _ _ _ _ rfl).trans rfl)
      have HOWN : Hid (Own ((wr.alloc (.cells #[.int .i64 (x : Nat)] 3)).drew) w.heap.size 3 .i64 u5 (dl 256 z k)) := Lib.hid (World.ownsRow.alloc hown.out _)
      have HSZ : Hid (w.heap.size ≤ ((wr.alloc (.cells #[.int .i64 (x : Nat)] 3)).drew).heap.size) := Lib.hid (Nat.le_trans hb.size (by show wr.heap.size ≤ (wr.alloc _).heap.size; simp))
      have HBW : Hid (Below w.heap.size w ((wr.alloc (.cells #[.int .i64 (x : Nat)] 3)).drew)) := Lib.hid ((hb.alloc hb.size _).drew)
      clear HDk hx hp hp1 K2 hcell hpk hlt hn hq
      go_wp2_with fail
      go_region_law (first
        | (rw [HT.out, htm]; go_loud (refine step_app1 ((wr.alloc (.cells #[.int .i64 (x : Nat)] 3)).drew) rfl (.tmp 15) (.tmp 30) _ rfl w.heap.size 3 i0 .i64 8 Tryz.underlying124 hi0 hz0 hj1 hj2 (by omega) _ (dl 256 z k) x ⟨wr.heap.size, 0, none⟩ (by simp [Act.eval, Act.put]) (by simp [Act.eval, Act.put]) HNEW.out HOWN.out hlen.out HSZ.out ?_); intro v5 w5 hown5 hb5)
        | (go_simp; go_at_call 128; refine (H2.out _ (by first | exact hb | exact hb.drew)).mono ?_; rintro e w' ⟨rfl, rfl⟩))
      all_goals
        rw [HX.out, ← dl_succ] at hown5
        have HO5 := Lib.hid hown5
        have hbf := HBW.out.trans hb5
        clear hown5 hb5 HNEW HOWN HSZ HBW
        go_wp2_with fail
        go_roundw
        case rel => exact ⟨k + 1, p1, by have := HP.out; have := HP1.out; omega, Or.inr (by have := HLT.out; have := HP1.out; omega), by go_num, HO5, hbf⟩
        case measure =>
          have := HLT.out
          have := HP1.out
          clear hw1 hw2 htm hbq hbr hbr2 hpI
          simp [intOf]; omega
    · have HND : Hid (nd 256 z ≤ k) := Lib.hid (HNZ.out k (by omega))
      have hk9 : k ≤ 1000000000 := by omega
      obtain ⟨A5, c5, rfl, hc5⟩ := hown.out.len
      have hown5 := hown.out
      rw [dl_length] at hown5 ⊢
      have KC := Lib.hid (rCut3_c z k _ A5 c5 wr HND.out hk9 hown5)
      have HO5 := Lib.hid hown5
      clear hown5 hc5 hown hpk hp
      go_wp2_with fail
      refine KC.out.mono ?_
      rintro e w6 ⟨rfl, rfl⟩
      go_wp2_with fail
      go_ret
      exact ⟨_, _, rfl, HO5.out.cut HND.out, hb⟩
end Go.Proofs.YtjalpocjgpgcfaaGreatDoor
set_option linter.unusedSimpArgs false
set_option linter.unusedVariables false
namespace Nt

theorem plus_end {x y k : Nat} (hx : nd 256 x ≤ k) (hy : nd 256 y ≤ k) (hc : car 256 x y k = 0) : of 256 (dl 256 (x + y) k) = x + y := by
  have h1 := (lt_pow_iff (b := 256) (by omega) k x).2 hx
  have h2 := (lt_pow_iff (b := 256) (by omega) k y).2 hy
  rw [car_def, Nat.mod_eq_of_lt h1, Nat.mod_eq_of_lt h2] at hc
  rw [of_dl]
  exact Nat.mod_eq_of_lt ((Nat.div_eq_zero_iff_lt (Nat.pow_pos (by omega))).1 hc)
theorem car_far {x y k : Nat} (hx : nd 256 x < k) (hy : nd 256 y < k) : car 256 x y k = 0 := by
  obtain ⟨m, rfl⟩ : ∃ m, k = m + 1 := ⟨k - 1, by omega⟩
  rw [car_succ (by omega), dgt_big (b := 256) (by omega) (show nd 256 x ≤ m by omega), dgt_big (b := 256) (by omega) (show nd 256 y ≤ m by omega)]
  have := car_le (b := 256) (by omega) x y m
  omega
theorem dl_lt256 (n k : Nat) : ∀ x ∈ dl 256 n k, x < 256 := fun x hx => by
  obtain ⟨i, hi, rfl⟩ := List.getElem_of_mem hx
  rw [dl_length] at hi
  have e := dl_get? 256 n k i hi
  rw [List.getElem?_eq_getElem (by rw [dl_length]; exact hi)] at e
  rw [Option.some.inj e]
  exact dgt_lt (by omega) _ _
theorem dl_get (b n L i : Nat) (h : i < (dl b n L).length) : (dl b n L)[i] = dgt b n i := by
  have e := dl_get? b n L i (by rwa [dl_length] at h)
  rw [List.getElem?_eq_getElem h] at e
  exact Option.some.inj e
/-- A digit of a difference, by Go's steps. -/
theorem sub_step (x y k : Nat) (h : y ≤ x) :
    (dgt 256 x k < dgt 256 y k + bor 256 x y k → dgt 256 (x - y) k + dgt 256 y k + bor 256 x y k = dgt 256 x k + 256 ∧ bor 256 x y (k + 1) = 1) ∧
    (¬ dgt 256 x k < dgt 256 y k + bor 256 x y k → dgt 256 (x - y) k + dgt 256 y k + bor 256 x y k = dgt 256 x k ∧ bor 256 x y (k + 1) = 0) := by
  have h1 := dgt_sub (b := 256) (by omega) x y k h
  have h2 := bor_succ (b := 256) (by omega) x y k
  have h3 := bor_le 256 x y k
  have h4 := dgt_lt (b := 256) (by omega) x k
  have h5 := dgt_lt (b := 256) (by omega) y k
  refine ⟨fun c => ?_, fun c => ?_⟩
  · rw [if_pos c] at h2
    exact ⟨by omega, h2⟩
  · rw [if_neg c] at h2
    exact ⟨by omega, h2⟩
theorem sub_end {x y : Nat} (h : y ≤ x) : of 256 (dl 256 (x - y) (nd 256 x)) = x - y := by
  rw [of_dl]
  exact Nat.mod_eq_of_lt (Nat.lt_of_le_of_lt (Nat.sub_le _ _) (lt_nd (by omega)))
/-- The rows of a product so far: Z with what is carried. -/
def tms (x y i k Z more : Nat) : Prop := Z + 256 ^ (i + k) * more = x % 256 ^ i * y + 256 ^ i * (dgt 256 x i * (y % 256 ^ k))
theorem tms_first (x y i : Nat) : tms x y i 0 (x % 256 ^ i * y) 0 := by
  unfold tms; rw [Nat.pow_zero, Nat.mod_one, Nat.mul_zero, Nat.mul_zero, Nat.mul_zero]
theorem tms_step {x y i k Z more s : Nat} (h : tms x y i k Z more) (hs : s = more + dgt 256 Z (i + k) + dgt 256 x i * dgt 256 y k) :
    tms x y i (k + 1) (put 256 Z (i + k) (s % 256)) (s / 256) := by
  unfold tms at h ⊢
  have h1 := put_eq (b := 256) Z (i + k) (s % 256) (by omega)
  have h2 := Nat.mod_add_div s 256
  rw [mod_succ, Nat.mul_add, Nat.mul_add, show i + (k + 1) = (i + k) + 1 by omega, Nat.pow_succ]
  have h3 : 256 ^ (i + k) * s = 256 ^ (i + k) * more + 256 ^ (i + k) * dgt 256 Z (i + k) + 256 ^ (i + k) * (dgt 256 x i * dgt 256 y k) := by rw [hs, Nat.mul_add, Nat.mul_add]
  have h4 : 256 ^ (i + k) * s = 256 ^ (i + k) * (s % 256) + 256 ^ (i + k) * 256 * (s / 256) := by
    rw [Nat.mul_assoc, ← Nat.mul_add, h2]
  have h5 : 256 ^ i * (dgt 256 x i * (256 ^ k * dgt 256 y k)) = 256 ^ (i + k) * (dgt 256 x i * dgt 256 y k) := by
    rw [Nat.pow_add, Nat.mul_left_comm (dgt 256 x i), Nat.mul_assoc]
  rw [h5]
  omega
theorem tms_last {x y i k Z : Nat} (h : tms x y i k Z 0) (hk : nd 256 y ≤ k) : Z = x % 256 ^ (i + 1) * y := by
  unfold tms at h
  rw [Nat.mul_zero, Nat.add_zero, Nat.mod_eq_of_lt ((lt_pow_iff (b := 256) (by omega) k y).2 hk)] at h
  rw [h, mod_succ, Nat.add_mul, Nat.mul_assoc]
theorem tms_more {x y i k Z more : Nat} (h : tms x y i k Z more) (hk : nd 256 y ≤ k) (hm : more ≠ 0) : k ≤ nd 256 y := by
  unfold tms at h
  have hy := (lt_pow_iff (b := 256) (by omega) k y).2 hk
  rw [Nat.mod_eq_of_lt hy] at h
  have h1 : x % 256 ^ i * y + 256 ^ i * (dgt 256 x i * y) = x % 256 ^ (i + 1) * y := by rw [mod_succ, Nat.add_mul, Nat.mul_assoc]
  have h2 : x % 256 ^ (i + 1) < 256 ^ (i + 1) := Nat.mod_lt _ (Nat.pow_pos (by omega))
  have h3 : y < 256 ^ nd 256 y := lt_nd (by omega)
  have h4 : x % 256 ^ (i + 1) * y < 256 ^ (i + 1) * 256 ^ nd 256 y := Nat.mul_lt_mul'' h2 h3
  have h5 : 256 ^ (i + k) * 1 ≤ 256 ^ (i + k) * more := Nat.mul_le_mul_left _ (by omega)
  rw [← Nat.pow_add] at h4
  have h6 : 256 ^ (i + k) < 256 ^ (i + 1 + nd 256 y) := by omega
  have := (Nat.pow_lt_pow_iff_right (by omega : 1 < 256)).1 h6
  omega
theorem tms_next {more d x y : Nat} (hm : more ≤ 255) (hd : d < 256) (hx : x < 256) (hy : y < 256) : more + d + x * y ≤ 65535 ∧ (more + d + x * y) / 256 ≤ 255 ∧ x * y ≤ 65025 := by
  have h : x * y ≤ 255 * 255 := Nat.mul_le_mul (by omega) (by omega)
  omega
theorem tms_all (x y : Nat) : x % 256 ^ nd 256 x * y = x * y := by rw [Nat.mod_eq_of_lt (lt_nd (by omega))]
theorem tms_fits (x y : Nat) : of 256 (dl 256 (x * y) (nd 256 x + nd 256 y + 1)) = x * y := by
  rw [of_dl]
  refine Nat.mod_eq_of_lt ?_
  have h := Nat.mul_lt_mul'' (lt_nd (b := 256) (n := x) (by omega)) (lt_nd (b := 256) (n := y) (by omega))
  rw [← Nat.pow_add] at h
  exact Nat.lt_of_lt_of_le h (Nat.pow_le_pow_right (by omega) (by omega))
theorem two_of (n : Nat) : of 256 ((List.range (n / 8 + 1)).map fun j => if j = n / 8 then 2 ^ (n % 8) else 0) = 2 ^ n := by
  rw [List.range_succ, List.map_append, of_append]
  have h : of 256 ((List.range (n / 8)).map fun j => if j = n / 8 then 2 ^ (n % 8) else 0) = 0 := by
    have : ∀ m, m ≤ n / 8 → of 256 ((List.range m).map fun j => if j = n / 8 then 2 ^ (n % 8) else 0) = 0 := by
      intro m
      induction m with
      | zero => intro _; rfl
      | succ m ih =>
        intro hm
        rw [List.range_succ, List.map_append, of_append, ih (by omega), List.map_singleton]
        rw [show (if m = n / 8 then 2 ^ (n % 8) else 0) = 0 from if_neg (by omega)]
        simp [of_cons, of_nil]
    exact this _ (Nat.le_refl _)
  rw [h, List.length_map, List.length_range]
  simp only [List.map_cons, List.map_nil, if_true, of_cons, of_nil, Nat.mul_zero, Nat.add_zero, Nat.zero_add]
  rw [show (256 : Nat) = 2 ^ 8 by rfl, ← Nat.pow_mul, ← Nat.pow_add]
  congr 1
  omega
end Nt
set_option linter.unusedSimpArgs false
set_option linter.unusedVariables false
namespace Go.Proofs.YtjalpocjgpgcfaaGreatDoor
open Go Go.RowKit Nt

/-- The digits of a number, as cells. -/
def dcell3 (n L : Nat) : Array Value := fcells .i64 (dgt 256 n) L
theorem dcell3_get (n L j : Nat) (h : j < L) : (dcell3 n L)[j]? = some (.int .i64 (dgt 256 n j : Nat)) := fcells_get _ _ _ _ h
theorem dcell3_set (n L i v : Nat) (hv : v < 256) : (dcell3 n L).setIfInBounds i (.int .i64 (v : Nat)) = dcell3 (put 256 n i v) L := by
  unfold dcell3
  rw [fcells_set]
  exact fcells_congr fun j _ => (dgt_put (by omega) n i v j hv).symm
theorem dcell3_made (L : Nat) : madeCells #[.int .i64 0] L = dcell3 0 L := by
  unfold dcell3
  rw [fcells_made]
  exact fcells_congr fun j _ => by rw [dgt_def, Nat.zero_div]
theorem Own.of_fcells3 {w : World} {B g : Nat} {T : TypeId} {k : IntKind} {f : Nat → Nat} {L : Nat} (h : Blk w g T (fcells k f L)) (hB : B ≤ g) (hL : L ≤ 1000000000) :
    Own w B T k (.slice (some ⟨g, 0, none⟩) L L) ((List.range L).map f) := by
  have hlen : ((List.range L).map f).length = L := by simp
  unfold Own
  rw [hlen]
  refine ⟨by simp, Or.inr ⟨g, L, fcells k f L, rfl, hB, h, Nat.le_refl _, by unfold maxLen; omega, by rw [fcells_size, Nat.mul_one], ?_⟩⟩
  rw [fcells_list3, Nat.mul_one]
  exact List.take_of_length_le (by simp)
theorem nd_mul3 (x y : Nat) : nd 256 (x * y) ≤ nd 256 x + nd 256 y := by
  refine nd_le (by omega) ?_
  have h := Nat.mul_lt_mul'' (lt_nd (b := 256) (n := x) (by omega)) (lt_nd (b := 256) (n := y) (by omega))
  rwa [← Nat.pow_add] at h
end Go.Proofs.YtjalpocjgpgcfaaGreatDoor
set_option linter.unusedSimpArgs false
set_option linter.unusedVariables false
namespace Go.Proofs.YtjalpocjgpgcfaaGreatDoor
open Go Go.RowKit Nt

def madeF3 (n Z i j : Nat) : Nat := if n - i ≤ j then dgt 256 Z (n - 1 - j) else 0
theorem madeF3_step {n Z i x j : Nat} (h : n = i + 1 + x) (hj : j < n) : (if j = x then dgt 256 Z i else madeF3 n Z i j) = madeF3 n Z (i + 1) j := by
  unfold madeF3
  by_cases h1 : j = x
  · rw [if_pos h1, if_pos (by omega), show n - 1 - j = i by omega]
  · rw [if_neg h1]
    by_cases h2 : n - i ≤ j
    · rw [if_pos h2, if_pos (by omega)]
    · rw [if_neg h2, if_neg (by omega)]
/-- What is made of a number, and whether it may be. -/
def MkPost (g : Bool) (n : Nat) (x : Int) (w : World) (e : Ending) (w' : World) : Prop := e = .returned (.tuple #[(mkD g n x).v, .int .i64 (mkE n x)]) ∧ Below w.heap.size w w'
theorem MkPost.no {g : Bool} {n : Nat} {x : Int} (h : ¬ mkOk3 n x) {w : World} {e : Ending} {w' : World} (he : e = .returned (.tuple #[.agg #[.bool false, .string ⟨#[]⟩, .int .i64 0], .int .i64 4])) (hb : Below w.heap.size w w') : MkPost g n x w e w' := by
  unfold MkPost
  rw [mkD_no h, mkE_no h, Dy.zero_v]
  exact ⟨he, hb⟩
theorem MkPost.zero {g : Bool} {x : Int} {w : World} {e : Ending} {w' : World} (he : e = .returned (.tuple #[.agg #[.bool false, .string ⟨#[]⟩, .int .i64 0], .int .i64 0])) (hb : Below w.heap.size w w') : MkPost g 0 x w e w' := by
  unfold MkPost
  rw [mkD_zero, mkE_zero, Dy.zero_v]
  exact ⟨he, hb⟩
theorem MkPost.ok {g : Bool} {n : Nat} {x : Int} (h0 : n ≠ 0) (h : mkOk3 n x) {w : World} {e : Ending} {w' : World} (he : e = .returned (.tuple #[.agg #[.bool g, .string (natS (odN n)), .int .i64 (x + lowN n)], .int .i64 0])) (hb : Below w.heap.size w w') : MkPost g n x w e w' := by
  unfold MkPost
  rw [mkD_ok h0 h, mkE_ok h]
  exact ⟨he, hb⟩
theorem box1 {w w1 : World} {b : Obj} (hb : Below (w.alloc b).heap.size (w.alloc b) w1) : w.heap.size < w1.heap.size := by have := hb.size; simp at this; omega
theorem lowN_bits {n m : Nat} (hn : nd 256 n ≤ m) : lowN n ≤ 8 * m := by
  by_cases h0 : n = 0
  · rw [h0, lowN_zero]; omega
  · have h1 := low_lt h0 (lowN_is n)
    have h2 := (bits_le n m).2 hn
    omega
set_option maxRecDepth 100000 in
theorem rFit3_zero (g : Bool) (x : Int) (A : Option Addr) (c : Nat) (w : World) :
    Calls Tryz.prog 103 #[.bool g, .slice A 0 c, .int .i64 x] w (MkPost g 0 x w) := by
  go_enter Tryz.func103, Tryz.ntmps103
  go_wp2
  refine bodyPost_ret (v := .tuple #[.agg #[.bool false, .string ⟨#[]⟩, .int .i64 0], .int .i64 0]) (by simp [results, Tryz.results103, go_sem]) rfl (MkPost.zero rfl ?_)
  repeat (refine Below.setCell ?_ (by simp) _)
  exact (Below.refl _ _).alloc (Nat.le_refl _) _
/-- The part of fit that all its ways share. -/
theorem fit_calls (n l o B : Nat) (A : Option Addr) (c : Nat) (w : World) (b : Obj) (h0 : n ≠ 0) (hl : l = lowN n) (ho : o = odN n) (hn : nd 256 n ≤ 100000) (h : Own w B 3 .i64 (.slice A (nd 256 n) c) (dl 256 n (nd 256 n))) :
    Hid (Calls Tryz.prog 126 #[.slice A (nd 256 n) c] (w.alloc b) fun e w' => e = .returned (.int .i64 (l : Nat)) ∧ w.alloc b = w') ∧
    Hid (Calls Tryz.prog 127 #[.slice A (nd 256 n) c, .int .i64 (l : Nat)] (w.alloc b) (BigP o (w.alloc b))) ∧ l ≤ 800000 := by
  have h1 : Own (w.alloc b) B 3 .i64 (.slice A (nd 256 n) c) (dl 256 n (nd 256 n)) := World.ownsRow.alloc h _
  have hlb := lowN_bits hn
  refine ⟨Lib.hid ?_, Lib.hid ?_, by omega⟩
  · rw [hl]; exact rLow3_c n (lowN n) (nd 256 n) B A c _ h0 (lowN_is n) (Nat.le_refl _) (by omega) h1
  · have := rHalved3_c n (l / 8) (l % 8) B A c _ (by omega) (by omega) (by omega) h1
    rw [show 8 * (l / 8) + l % 8 = l by omega] at this
    rw [ho]
    unfold odN
    rw [← hl]; exact this
set_option maxRecDepth 100000 in
set_option maxHeartbeats 1000000 in
theorem rFit3_no (g : Bool) (n : Nat) (x : Int) (B : Nat) (A : Option Addr) (c : Nat) (w : World) (h0 : n ≠ 0) (hno : ¬ mkOk3 n x) (hn : nd 256 n ≤ 100000) (hx : -9223372036854775808 ≤ x ∧ x ≤ 9223372036854775807) (h : Own w B 3 .i64 (.slice A (nd 256 n) c) (dl 256 n (nd 256 n))) :
    Calls Tryz.prog 103 #[.bool g, .slice A (nd 256 n) c, .int .i64 x] w (MkPost g n x w) := by
  obtain ⟨l, hl⟩ : ∃ l, l = lowN n := ⟨_, rfl⟩
  obtain ⟨o, ho⟩ : ∃ o, o = odN n := ⟨_, rfl⟩
  obtain ⟨L, hL⟩ : ∃ L, L = nd 256 n := ⟨_, rfl⟩
  have hc := fun b => fit_calls n l o B A c w b h0 hl ho hn h
  have hz : ((nd 256 n : Nat) : Int) ≠ 0 := by
    have : nd 256 n ≠ 0 := fun c => h0 ((nd_eq_zero (by omega)).1 c)
    omega
  have hz2 : (((nd 256 n : Nat) : Int) == 0) = false := by rw [beq_eq_false_iff_ne]; exact hz
  have hlb := (hc (.cells #[] 0)).2.2
  have hcase : 1048576 < x ∨ (¬ 1048576 < x ∧ x < -4194304) ∨ (¬ 1048576 < x ∧ ¬ x < -4194304 ∧ 1048576 < x + (l : Int)) ∨ (¬ 1048576 < x ∧ ¬ x < -4194304 ∧ ¬ 1048576 < x + (l : Int) ∧ x + (l : Int) < -1048576) ∨ (¬ 1048576 < x ∧ ¬ x < -4194304 ∧ ¬ 1048576 < x + (l : Int) ∧ ¬ x + (l : Int) < -1048576 ∧ 16384 < nd 256 o) := by
    unfold mkOk3 fits at hno
    rw [← hl, ← ho] at hno
    by_cases c1 : 1048576 < x
    · exact Or.inl c1
    by_cases c2 : x < -4194304
    · exact Or.inr (Or.inl ⟨c1, c2⟩)
    by_cases c3 : 1048576 < x + (l : Int)
    · exact Or.inr (Or.inr (Or.inl ⟨c1, c2, c3⟩))
    by_cases c4 : x + (l : Int) < -1048576
    · exact Or.inr (Or.inr (Or.inr (Or.inl ⟨c1, c2, c3, c4⟩)))
    by_cases c5 : 16384 < nd 256 o
    · exact Or.inr (Or.inr (Or.inr (Or.inr ⟨c1, c2, c3, c4, c5⟩)))
    · exact absurd (Or.inr ⟨by omega, by omega, by omega⟩) hno
  rw [← hL] at hz hz2 hc ⊢
  have HNO := Lib.hid hno
  have HC := Lib.hid (fun b => (hc b).1)
  have HH := Lib.hid (fun b => (hc b).2.1)
  clear hno hc hL hl ho h h0 hn
  rcases hcase with c1 | ⟨c1, c2⟩ | ⟨c1, c2, c3⟩ | ⟨c1, c2, c3, c4⟩ | ⟨c1, c2, c3, c4, c5⟩
  all_goals
    go_enter Tryz.func103, Tryz.ntmps103
    go_wp2_with (first
      | (go_at_call 126; refine ((HC.out _).out).mono ?_; rintro e w1 ⟨rfl, rfl⟩)
      | (go_at_call 127; refine ((HH.out _).out).mono ?_; rintro e w2 ⟨A5, c5, rfl, hown, hb⟩; obtain ⟨hcl, hfz⟩ := bcell hb; have hsz := box1 hb; clear hown))
    refine bodyPost_ret (v := .tuple #[.agg #[.bool false, .string ⟨#[]⟩, .int .i64 0], .int .i64 4]) (by simp [results, Tryz.results103, go_sem, hcl, hsz]) rfl (MkPost.no HNO.out rfl ?_)
    repeat (refine Below.setCell ?_ (by simp) _)
    exact box_below hb
end Go.Proofs.YtjalpocjgpgcfaaGreatDoor
set_option linter.unusedSimpArgs false
set_option linter.unusedVariables false
namespace Go.Proofs.YtjalpocjgpgcfaaGreatDoor
open Go Go.RowKit Nt

set_option maxRecDepth 100000 in
set_option maxHeartbeats 1000000 in
theorem rFit3_ok (g : Bool) (n : Nat) (x : Int) (B : Nat) (A : Option Addr) (c : Nat) (w : World) (h0 : n ≠ 0) (hok : mkOk3 n x) (hn : nd 256 n ≤ 100000) (h : Own w B 3 .i64 (.slice A (nd 256 n) c) (dl 256 n (nd 256 n))) :
    Calls Tryz.prog 103 #[.bool g, .slice A (nd 256 n) c, .int .i64 x] w (MkPost g n x w) := by
  obtain ⟨i0, hi0, hz0, hz1, hz2⟩ := info_parts (P := Tryz.prog) (e := 5) (z := .int .u8 0) (size := 1) (bytes := 1) (by kernel_rfl)
  obtain ⟨l, hl⟩ : ∃ l, l = lowN n := ⟨_, rfl⟩
  obtain ⟨o, ho⟩ : ∃ o, o = odN n := ⟨_, rfl⟩
  obtain ⟨L, hL⟩ : ∃ L, L = nd 256 n := ⟨_, rfl⟩
  have hc := fun b => fit_calls n l o B A c w b h0 hl ho hn h
  have hzz : ((nd 256 n : Nat) : Int) ≠ 0 := by
    have : nd 256 n ≠ 0 := fun c => h0 ((nd_eq_zero (by omega)).1 c)
    omega
  have hzz2 : (((nd 256 n : Nat) : Int) == 0) = false := by rw [beq_eq_false_iff_ne]; exact hzz
  have hlb := (hc (.cells #[] 0)).2.2
  have hcase : ¬ 1048576 < x ∧ ¬ x < -4194304 ∧ ¬ 1048576 < x + (l : Int) ∧ ¬ x + (l : Int) < -1048576 ∧ nd 256 o ≤ 16384 := by
    have hk := hok
    unfold mkOk3 fits at hk
    rw [← hl, ← ho] at hk
    rcases hk with hk | ⟨hk1, hk2, hk3⟩
    · exact absurd hk h0
    · exact ⟨by omega, by omega, by omega, by omega, hk1⟩
  have HOK := Lib.hid (fun (w' : World) (e : Ending) => @MkPost.ok g n x h0 hok w e w')
  rw [← hl, ← ho] at HOK
  rw [← hL] at hzz hzz2 hc ⊢
  have HC := Lib.hid (fun b => (hc b).1)
  have HH := Lib.hid (fun b => (hc b).2.1)
  obtain ⟨K, hK⟩ : ∃ K, K = nd 256 o := ⟨_, rfl⟩
  obtain ⟨c1, c2, c3, c4, c5⟩ := hcase
  rw [← hK] at c5
  have c6 : ¬ (16384 : Int) < (K : Int) := by omega
  have HK := Lib.hid hK
  have hHH : Hid (∀ b, Calls Tryz.prog 127 #[.slice A L c, .int .i64 (l : Nat)] (w.alloc b) fun e w' => ∃ A5 c5, e = .returned (.slice A5 K c5) ∧ DRow w' A5 o K ∧ Below (w.alloc b).heap.size (w.alloc b) w') := Lib.hid fun b => ((HH.out b).out).mono fun e w' ⟨A5, c5, e1, e2, e3⟩ => ⟨A5, c5, by rw [HK.out]; exact e1, by rw [HK.out]; exact e2.drow, e3⟩
  have hcf : Hid (∀ wr g, Blk wr g 5 (fcells .u8 (madeF3 K o K) K) → (convert 143 22 (.slice (some ⟨g, 0, none⟩) K K)).run Tryz.prog wr = .ok (.string (natS o)) wr) := Lib.hid fun wr g hblk => by
    have hN := HK.out
    have hl : ((dl 256 o (nd 256 o)).reverse.map UInt8.ofNat).length = K := by simp [dl_length, hN]
    have h := run_convert_bytes_back (P := Tryz.prog) wr 143 22 5 ⟨g, 0, none⟩ K ((dl 256 o (nd 256 o)).reverse.map UInt8.ofNat) Tryz.underlying143 Tryz.underlying5 Tryz.underlying22 (fun j hj => by
      have hj2 : j < K := by rw [← hl]; exact hj
      rw [add_plain0, hblk.cell, fcells_get _ _ _ _ hj2]
      have e := natS_get o j (by rw [natS_size, ← hN]; exact hj2)
      rw [ba_get] at e
      simp only [natS_def] at e
      rw [List.getElem_toArray] at e
      rw [e]
      unfold madeF3
      rw [if_pos (by omega), hN])
    rw [hl, ← natS_def] at h
    exact h
  clear hc hL hl ho h h0 hn hok HH hK
  go_enter Tryz.func103, Tryz.ntmps103
  go_wp2_with fail
  refine ((HC.out _).out).mono ?_
  rintro e w1 ⟨rfl, rfl⟩
  go_wp2_with fail
  refine (hHH.out _).mono ?_
  rintro e w1 ⟨A5, c5, rfl, hrow, hb0⟩
  have HROW := Lib.hid hrow
  have hb00 := box_below hb0
  have hszb := box1 hb0
  obtain ⟨hcl0, hfz0⟩ := bcell hb0
  have HB0 := Lib.hid hb0
  clear hrow hb0
  go_wp2_with (at_make; go_loud (refine wpList_make_zero _ rfl _ _ _ rfl 5 i0 _ Tryz.underlying143 hi0 hz0 hz1 .i64 .i64 _ _ K rfl rfl rfl rfl (by rw [hz2]; omega) (by unfold maxLen; omega) ?_))
  rw [fcells_made]
  have HBK := Lib.hid (Blk.new w1 5 (fcells .u8 (fun _ => 0) K))
  have hbl : Below w1.heap.size w1 (w1.alloc (.cells (fcells .u8 (fun _ => 0) K) 5)) := (Below.refl _ _).alloc (Nat.le_refl _) _
  generalize w1.alloc (.cells (fcells .u8 (fun _ => 0) K) 5) = w2 at *
  obtain ⟨gg, hg⟩ : ∃ gg, gg = w1.heap.size := ⟨_, rfl⟩
  rw [← hg] at HBK hbl ⊢
  have HG := Lib.hid hg
  clear hg hcl0 hfz0
  go_loopw [10] (fun i wr => ∃ q : Nat, q ≤ K ∧ i = .int .i64 q ∧ Hid (Blk wr gg 5 (fcells .u8 (madeF3 K o q) K)) ∧ Below gg w1 wr) (fun i _ => K - (intOf i).toNat)
  case atStart => exact ⟨0, Nat.zero_le _, rfl, by rw [fcells_congr (f' := fun _ => 0) (fun j hj => by unfold madeF3; rw [if_neg (by omega)])]; exact HBK, hbl⟩
  case round =>
    obtain ⟨q, hq, rfl, hblk, hb⟩ := hrel
    by_cases hlt : q < K
    · obtain ⟨y, hy⟩ : ∃ y, K = q + 1 + y := ⟨K - q - 1, by omega⟩
      obtain ⟨gb, hA, hgb, hcb⟩ := HROW.out q (by omega)
      have hcb2 := (hb.cell (p := ⟨gb, q, none⟩) (by have := HG.out; show gb < gg; omega)).trans hcb
      cases hA
      have hfz := hblk.out.frozen y
      have hck := hblk.out.cell y
      rw [fcells_get _ _ _ _ (by omega)] at hck
      have hxI : (K : Int) - 1 - (q : Int) = (y : Int) := by omega
      have hd := dgt_lt (b := 256) (by omega) o q
      have hwr : IntKind.u8.wrap ((dgt 256 o q : Nat) : Int) = ((dgt 256 o q : Nat) : Int) := by rw [wrap_u8, Nat.mod_eq_of_lt hd]
      have HX := Lib.hid hy
      clear hy hcb
      go_wp2
      have HB1 := Lib.hid (hblk.out.set_ y (.int .u8 ((dgt 256 o q : Nat) : Int)))
      rw [fcells_set, fcells_congr (f' := madeF3 K o (q + 1)) (fun j hj => madeF3_step HX.out hj)] at HB1
      have hb1 := hb.setCell (p := ⟨gg, y, none⟩) (Nat.le_refl _) (.int .u8 ((dgt 256 o q : Nat) : Int))
      go_roundw
      case rel => exact ⟨q + 1, by omega, by go_num, HB1, hb1⟩
      case measure => simp [intOf]; omega
    · obtain rfl : q = K := by omega
      have hcv := hcf.out wr gg hblk.out
      have hbt := HB0.out.trans (hb.mono (by have := HG.out; have := HB0.out.size; omega))
      obtain ⟨hcl, hfz⟩ := bcell hbt
      have hsz := box1 hbt
      have hw3 : wrap64 (x + (l : Int)) = x + (l : Int) := IntWalk.wrap64_in _ (by omega)
      have hbe := box_below hbt
      clear hb hblk
      go_wp2
      refine bodyPost_ret (v := .tuple #[.agg #[.bool g, .string (natS o), .int .i64 (x + l)], .int .i64 0]) (by simp [results, Tryz.results103, go_sem, hcl, hsz]) rfl (HOK.out _ _ rfl ?_)
      repeat (refine Below.setCell ?_ (by simp) _)
      exact hbe
end Go.Proofs.YtjalpocjgpgcfaaGreatDoor
set_option linter.unusedSimpArgs false
set_option linter.unusedVariables false
namespace Go.Proofs.YtjalpocjgpgcfaaGreatDoor
open Go Go.RowKit Nt

def madeF (n Z i j : Nat) : Nat := if n - i ≤ j then dgt 256 Z (n - 1 - j) else 0
theorem madeF_step {n Z i x j : Nat} (h : n = i + 1 + x) (hj : j < n) : (if j = x then dgt 256 Z i else madeF n Z i j) = madeF n Z (i + 1) j := by
  unfold madeF
  by_cases h1 : j = x
  · rw [if_pos h1, if_pos (by omega), show n - 1 - j = i by omega]
  · rw [if_neg h1]
    by_cases h2 : n - i ≤ j
    · rw [if_pos h2, if_pos (by omega)]
    · rw [if_neg h2, if_neg (by omega)]
theorem digit_of {l : List Nat} (hl : ∀ x ∈ l, x < 256) {j : Nat} (h : j < l.length) : dgt 256 (of 256 l) j = l[j] := dgt_of (by omega) l hl j h
set_option maxRecDepth 100000 in
set_option maxHeartbeats 1000000 in
theorem rMade_c (B : Nat) (v : Value) (l : List Nat) (w : World) (hl : ∀ x ∈ l, x < 256) (hn : l.length ≤ 1000000000) (hown : Own w B 3 .i64 v l) :
    Calls Tryz.prog 106 #[v] w fun e w' => e = .returned (.string (natS (of 256 l))) ∧ Below w.heap.size w w' := by
  obtain ⟨i0, hi0, hz0, hz1, hz2⟩ := info_parts (P := Tryz.prog) (e := 5) (z := .int .u8 0) (size := 1) (bytes := 1) (by kernel_rfl)
  obtain ⟨A, c, rfl, hc⟩ := hown.len
  obtain ⟨Z, hZ⟩ : ∃ Z, Z = of 256 l := ⟨_, rfl⟩
  obtain ⟨L, hL⟩ : ∃ L, L = l.length := ⟨_, rfl⟩
  have hdl := of_lt (b := 256) (by omega) l hl
  have hcell : ∀ j, j < L → ∃ ga, A = some ⟨ga, 0, none⟩ ∧ ga < w.heap.size ∧ w.cell? ⟨ga, j, none⟩ = some (.int .i64 (dgt 256 Z j : Nat)) := fun j hj => by
    obtain ⟨g, cap, e, _, hg, hcl, _⟩ := hown.cell (by rw [← hL]; exact hj)
    cases e
    exact ⟨g, rfl, hg, by rw [hcl, hZ, digit_of hl]⟩
  rw [← hZ] at hdl ⊢
  rw [← hL] at hn hc hdl ⊢
  have hnd : nd 256 Z ≤ L := nd_le (by omega) hdl
  have HC := Lib.hid hcell
  clear hcell hZ hL hown hl hdl hc
  go_enter Tryz.func106, Tryz.ntmps106
  go_wp2
  go_loopw [3] (fun i wr => ∃ k : Nat, k ≤ L ∧ i = .int .i64 k ∧ Hid (nd 256 Z ≤ k) ∧ w = wr) (fun i _ => (intOf i).toNat)
  case atStart => exact ⟨L, Nat.le_refl _, rfl, Lib.hid hnd, rfl⟩
  case round =>
    obtain ⟨k, hk, rfl, hle, rfl⟩ := hrel
    by_cases hstop : nd 256 Z = k
    · have HS := Lib.hid hstop
      clear hstop hle
      have hcond : k = 0 ∨ ∃ m ga, k = m + 1 ∧ A = some ⟨ga, 0, none⟩ ∧ w.cell? ⟨ga, k - 1, none⟩ = some (.int .i64 (dgt 256 Z m : Nat)) ∧ dgt 256 Z m ≠ 0 := by
        rcases Nat.eq_zero_or_pos k with h | h
        · exact Or.inl h
        · obtain ⟨m, rfl⟩ : ∃ m, k = m + 1 := ⟨k - 1, by omega⟩
          obtain ⟨ga, h1, _, h2⟩ := HC.out m (by omega)
          have h3 := dgt_top (b := 256) (n := Z) (by omega) (fun c => by have := HS.out; rw [c, nd_zero] at this; omega)
          rw [HS.out, Nat.add_sub_cancel] at h3
          exact Or.inr ⟨m, ga, rfl, h1, h2, h3⟩
      rcases hcond with h0 | ⟨m, ga, hm, rfl, hcl, hnz⟩
      case' inr =>
        have hz1' : ((dgt 256 Z m : Nat) : Int) ≠ 0 := by omega
        have hz2' : (((dgt 256 Z m : Nat) : Int) == 0) = false := by rw [beq_eq_false_iff_ne]; exact hz1'
        have hw : wrap64 ((k : Int) - 1) = (m : Int) := by rw [IntWalk.wrap64_in _ (by omega)]; omega
        have hk0 : (0 : Int) < (k : Int) := by omega
        have HM := Lib.hid hm
        clear hm
      case' inl =>
        have hk0 : ¬ (0 : Int) < (k : Int) := by omega
        have HM := Lib.hid h0
        clear h0
      all_goals
        go_wp2_with (at_make; go_loud (refine wpList_make_zero _ rfl _ _ _ rfl 5 i0 _ Tryz.underlying143 hi0 hz0 hz1 .i64 .i64 _ _ k rfl rfl rfl rfl (by rw [hz2]; omega) (by unfold maxLen; omega) ?_))
        rw [fcells_made]
        have HB0 := Lib.hid (Blk.new w 5 (fcells .u8 (fun _ => 0) k))
        have hbl : Below w.heap.size w (w.alloc (.cells (fcells .u8 (fun _ => 0) k) 5)) := (Below.refl _ _).alloc (Nat.le_refl _) _
        generalize w.alloc (.cells (fcells .u8 (fun _ => 0) k) 5) = w1 at *
        obtain ⟨g, hg⟩ : ∃ g, g = w.heap.size := ⟨_, rfl⟩
        rw [← hg] at HB0 hbl ⊢
        have HG := Lib.hid hg
        clear hg
        go_loopw [5] (fun i wr => ∃ q : Nat, q ≤ k ∧ i = .int .i64 q ∧ Hid (Blk wr g 5 (fcells .u8 (madeF k Z q) k)) ∧ Below g w wr) (fun i _ => k - (intOf i).toNat)
        case atStart => exact ⟨0, Nat.zero_le _, rfl, by rw [fcells_congr (f' := fun _ => 0) (fun j hj => by unfold madeF; rw [if_neg (by omega)])]; exact HB0, hbl⟩
        case round =>
          obtain ⟨q, hq, rfl, hblk, hb⟩ := hrel
          by_cases hlt : q < k
          · try exact absurd hlt (by have := HM.out; omega)
            all_goals
              obtain ⟨x, hx⟩ : ∃ x, k = q + 1 + x := ⟨k - q - 1, by omega⟩
              obtain ⟨gb, hA, hgb, hcb⟩ := HC.out q (by omega)
              have hcb2 := (hb.cell (p := ⟨gb, q, none⟩) (by have := HG.out; show gb < g; omega)).trans hcb
              cases hA
              have hfz := hblk.out.frozen x
              have hck := hblk.out.cell x
              rw [fcells_get _ _ _ _ (by omega)] at hck
              have hxI : (k : Int) - 1 - (q : Int) = (x : Int) := by omega
              have hd := dgt_lt (b := 256) (by omega) Z q
              have hwr : IntKind.u8.wrap ((dgt 256 Z q : Nat) : Int) = ((dgt 256 Z q : Nat) : Int) := by rw [wrap_u8, Nat.mod_eq_of_lt hd]
              have HX := Lib.hid hx
              clear hx hcb
              go_wp2
              have HB1 := Lib.hid (hblk.out.set_ x (.int .u8 ((dgt 256 Z q : Nat) : Int)))
              rw [fcells_set, fcells_congr (f' := madeF k Z (q + 1)) (fun j hj => madeF_step HX.out hj)] at HB1
              have hb1 := hb.setCell (p := ⟨g, x, none⟩) (Nat.le_refl _) (.int .u8 ((dgt 256 Z q : Nat) : Int))
              go_roundw
              case rel => exact ⟨q + 1, by omega, by go_num, HB1, hb1⟩
              case measure => simp [intOf]; omega
          · obtain rfl : q = k := by omega
            have hcv : (convert 143 9 (.slice (some ⟨g, 0, none⟩) q q)).run Tryz.prog wr = .ok (.string (natS Z)) wr := by
              have hN := HS.out
              have hl : ((dl 256 Z (nd 256 Z)).reverse.map UInt8.ofNat).length = q := by simp [dl_length, hN]
              have h := run_convert_bytes_back (P := Tryz.prog) wr 143 9 5 ⟨g, 0, none⟩ q ((dl 256 Z (nd 256 Z)).reverse.map UInt8.ofNat) Tryz.underlying143 Tryz.underlying5 Tryz.underlying9 (fun j hj => by
                have hj2 : j < q := by rw [← hl]; exact hj
                rw [add_plain0, hblk.out.cell, fcells_get _ _ _ _ hj2]
                have e := natS_get Z j (by rw [natS_size, hN]; exact hj2)
                rw [ba_get] at e
                simp only [natS_def] at e
                rw [List.getElem_toArray] at e
                rw [e]
                unfold madeF
                rw [if_pos (by omega), hN])
              rw [hl, ← natS_def] at h
              exact h
            go_wp2
            go_ret
            exact ⟨rfl, by rw [← HG.out]; exact hb⟩
    · obtain ⟨m, rfl⟩ : ∃ m, k = m + 1 := ⟨k - 1, by have := hle.out; omega⟩
      obtain ⟨ga, rfl, hga, hcl⟩ := HC.out m (by omega)
      rw [dgt_big (b := 256) (n := Z) (i := m) (by omega) (by have := hle.out; omega)] at hcl
      have H1 := Lib.hid (show nd 256 Z ≤ m by have := hle.out; omega)
      have hw : wrap64 ((m : Int) + 1 - 1) = (m : Int) := by rw [IntWalk.wrap64_in _ (by omega)]; omega
      clear hstop
      go_wp2
      go_roundw
      case rel => exact ⟨m, by omega, rfl, H1, trivial⟩
      case measure => simp [intOf]; try omega
end Go.Proofs.YtjalpocjgpgcfaaGreatDoor
set_option linter.unusedSimpArgs false
set_option linter.unusedVariables false
namespace Go.Proofs.YtjalpocjgpgcfaaGreatDoor
open Go Go.RowKit Nt

theorem dl_lt (n k : Nat) : ∀ x ∈ dl 256 n k, x < 256 := fun x hx => by
  obtain ⟨i, hi, rfl⟩ := List.getElem_of_mem hx
  rw [dl_length] at hi
  have e := dl_get? 256 n k i hi
  rw [List.getElem?_eq_getElem (by rw [dl_length]; exact hi)] at e
  rw [Option.some.inj e]
  exact dgt_lt (by omega) _ _
set_option maxRecDepth 100000 in
set_option maxHeartbeats 1000000 in
theorem rOf_c (n : Nat) (w : World) (hn : n < 18446744073709551616) :
    Calls Tryz.prog 65 #[.int .u64 (n : Nat)] w fun e w' => e = .returned (.string (natS n)) ∧ Below w.heap.size w w' := by
  obtain ⟨i0, hi0, hz0, hj1, hj2⟩ := info_parts (P := Tryz.prog) (e := 3) (z := .int .i64 0) (size := 1) (bytes := 8) (by kernel_rfl)
  have hN8 := br_lt.2 hn
  have H8 := Lib.hid hN8
  have HN := Lib.hid hn
  clear hN8 hn
  go_enter Tryz.func65, Tryz.ntmps65
  go_wp2
  go_loopw [0, 3] (fun x v wr => ∃ (k m : Nat), x = .int .u64 m ∧ Hid (m = n / 256 ^ k) ∧ Hid (k ≤ nd 256 n) ∧ Hid (Own wr w.heap.size 3 .i64 v (dl 256 n k)) ∧ Below w.heap.size w wr) (fun x _ _ => (intOf x).toNat)
  case atStart => exact ⟨0, n, rfl, Lib.hid (by rw [Nat.pow_zero, Nat.div_one]), Lib.hid (Nat.zero_le _), Lib.hid (Own.nil _ _ _ _), Below.refl _ _⟩
  case round =>
    obtain ⟨k, m, rfl, hm, hk, hown, hb⟩ := hrel
    by_cases h0 : m = 0
    · subst h0
      have hof : of 256 (dl 256 n k) = n := by
        rw [of_dl]
        refine Nat.mod_eq_of_lt ?_
        have h := hm.out
        exact (Nat.div_eq_zero_iff_lt (Nat.pow_pos (by omega))).1 h.symm
      have HOF := Lib.hid hof
      have HL := Lib.hid (show (dl 256 n k).length ≤ 1000000000 by rw [dl_length]; have := hk.out; have := H8.out; omega)
      clear hof
      go_wp2_with fail
      refine (rMade_c _ _ _ _ (dl_lt n k) HL.out hown.out).mono ?_
      rintro e w' ⟨rfl, hb'⟩
      go_wp2_with fail
      go_ret
      exact ⟨by rw [HOF.out]; rfl, below_chain hb hb'⟩
    · obtain ⟨d, hd⟩ : ∃ d, d = dgt 256 n k := ⟨_, rfl⟩
      have hdI : (m : Int) % 256 = (d : Int) := by
        rw [hd, dgt_def, ← hm.out]; omega
      have hd256 : d < 256 := by rw [hd]; exact dgt_lt (by omega) _ _
      have hqq : (m : Int).tdiv 256 = ((m / 256 : Nat) : Int) := by rw [Int.tdiv_eq_ediv_of_nonneg (by omega)]; omega
      have hm0 : (0 : Int) < (m : Int) := by omega
      have hlen : Hid ((dl 256 n k).length + 1 ≤ 17592186044416) := Lib.hid (by rw [dl_length]; have := hk.out; have := H8.out; omega)
      have HD := Lib.hid hd
      have hkn : Hid (k + 1 ≤ nd 256 n) := Lib.hid (by
        rcases Nat.lt_or_ge k (nd 256 n) with h | h
        · exact h
        · exact absurd (hm.out.trans (Nat.div_eq_of_lt ((lt_pow_iff (b := 256) (by omega) k n).2 h))) h0)
      have hmn : Hid (m / 256 = n / 256 ^ (k + 1)) := Lib.hid (by rw [hm.out, Nat.pow_succ, Nat.div_div_eq_div_mul])
      have hms : m < 18446744073709551616 := by rw [hm.out]; exact Nat.lt_of_le_of_lt (Nat.div_le_self _ _) HN.out
      have HMS := Lib.hid hms
      clear hd
      go_wp2_with (at_builtin; go_loud (refine wpList_app1 wr rfl (.tmp 6) (.tmp 10) _ rfl w.heap.size 3 3 i0 .i64 8 Tryz.underlying123 hi0 hz0 hj1 hj2 (by omega) _ (dl 256 n k) d rfl rfl hown.out hlen.out hb.size ?_); intro v5 w5 hown5 hb5 hfr5 hnw5)
      rw [HD.out, ← dl_succ] at hown5
      have HO5 := Lib.hid hown5
      clear hown5 hfr5 hnw5
      go_roundw
      case rel => exact ⟨k + 1, m / 256, rfl, hmn, hkn, HO5, hb.trans hb5⟩
      case measure => simp [intOf]; omega
end Go.Proofs.YtjalpocjgpgcfaaGreatDoor
set_option linter.unusedSimpArgs false
set_option linter.unusedVariables false
namespace Go.Proofs.YtjalpocjgpgcfaaGreatDoor
open Go Go.RowKit Nt

set_option maxRecDepth 100000 in
theorem rMake3_bad (g : Bool) (s : ByteArray) (x : Int) (w : World) (hs : s.size ≤ 9223372036854775807) (h : ¬ May s) :
    Calls Tryz.prog 64 #[.bool g, .string s, .int .i64 x] w fun e w' => e = .returned (.tuple #[.agg #[.bool false, .string ⟨#[]⟩, .int .i64 0], .int .i64 2]) ∧ Below w.heap.size w w' := by
  have hcase : 16384 < s.size ∨ (¬ 16384 < s.size ∧ ∃ hp : 0 < s.size, (s[0]'hp).toNat = 0) := by
    by_cases c : 16384 < s.size
    · exact Or.inl c
    · refine Or.inr ⟨c, ?_⟩
      by_cases hp : 0 < s.size
      · refine ⟨hp, ?_⟩
        by_cases h0 : (s[0]'hp).toNat = 0
        · exact h0
        · exact absurd ⟨by omega, fun _ => h0⟩ h
      · exact absurd ⟨by omega, fun c => absurd c hp⟩ h
  clear h
  rcases hcase with c | ⟨c, hp, h0⟩
  · go_enter Tryz.func64, Tryz.ntmps64
    go_wp2
    refine bodyPost_ret (v := .tuple #[.agg #[.bool false, .string ⟨#[]⟩, .int .i64 0], .int .i64 2]) (by simp [results, Tryz.results64, go_sem]) rfl ⟨rfl, ?_⟩
    repeat (refine Below.setCell ?_ (by simp) _)
    exact (Below.refl _ _).alloc (Nat.le_refl _) _
  · have hz := u8_eqz (s[0]'hp) h0
    have c' : ¬ (16384 : Int) < (s.size : Int) := by omega
    have H0 := Lib.hid h0
    clear h0
    go_enter Tryz.func64, Tryz.ntmps64
    go_wp2
    refine bodyPost_ret (v := .tuple #[.agg #[.bool false, .string ⟨#[]⟩, .int .i64 0], .int .i64 2]) (by simp [results, Tryz.results64, go_sem]) rfl ⟨rfl, ?_⟩
    repeat (refine Below.setCell ?_ (by simp) _)
    exact (Below.refl _ _).alloc (Nat.le_refl _) _
theorem rFit3_c (g : Bool) (n : Nat) (x : Int) (B : Nat) (A : Option Addr) (c : Nat) (w : World) (hn : nd 256 n ≤ 100000) (hx : -9223372036854775808 ≤ x ∧ x ≤ 9223372036854775807) (h : Own w B 3 .i64 (.slice A (nd 256 n) c) (dl 256 n (nd 256 n))) :
    Calls Tryz.prog 103 #[.bool g, .slice A (nd 256 n) c, .int .i64 x] w (MkPost g n x w) := by
  by_cases h0 : n = 0
  · subst h0
    rw [nd_zero]
    exact rFit3_zero g x A c w
  · by_cases hk : mkOk3 n x
    · exact rFit3_ok g n x B A c w h0 hk hn h
    · exact rFit3_no g n x B A c w h0 hk hn hx h
set_option maxRecDepth 100000 in
set_option maxHeartbeats 400000 in
theorem rMake3_c (g : Bool) (n : Nat) (x : Int) (w : World) (hf : fits n) (hx : -9223372036854775808 ≤ x ∧ x ≤ 9223372036854775807) :
    Calls Tryz.prog 64 #[.bool g, .string (natS n), .int .i64 x] w (MkPost g n x w) := by
  have hsz := natS_size n
  have hL : nd 256 n ≤ 16384 := hf
  have KO := Lib.hid (fun w => rOf3_c n w (by omega))
  have KF : Hid (∀ (B : Nat) (A : Option Addr) (c : Nat) (w : World), Own w B 3 .i64 (.slice A (nd 256 n) c) (dl 256 n (nd 256 n)) → Calls Tryz.prog 103 #[.bool g, .slice A (nd 256 n) c, .int .i64 x] w (MkPost g n x w)) := Lib.hid fun B A c w h => rFit3_c g n x B A c w (by omega) hx h
  have hcase : nd 256 n = 0 ∨ (0 < nd 256 n ∧ ∃ hp : 0 < (natS n).size, (((natS n)[0]'hp).toNat : Int) ≠ 0) := by
    rcases Nat.eq_zero_or_pos (nd 256 n) with c | c
    · exact Or.inl c
    · have hp : 0 < (natS n).size := by omega
      have := nat_first hf hp
      exact Or.inr ⟨c, hp, by omega⟩
  obtain ⟨L, hLL⟩ : ∃ L, L = nd 256 n := ⟨_, rfl⟩
  rw [← hLL] at hL hcase KF hsz KO
  have HL := Lib.hid hLL
  clear hLL hf hx
  rcases hcase with c | ⟨c, hp, h0⟩
  case' inl => subst c
  case' inr =>
    have hz : ((((natS n)[0]'hp).toNat : Int) == 0) = false := by rw [beq_eq_false_iff_ne]; exact h0
  all_goals
    go_enter Tryz.func64, Tryz.ntmps64
    go_wp2_with fail
    refine (KO.out _).mono ?_
    rintro e w1 ⟨v, rfl, hown, hb⟩
    obtain ⟨A1, c1, rfl, hc1⟩ := hown.len
    rw [dl_length] at hown hc1 ⊢
    obtain ⟨hcl, hfz⟩ := bcell hb
    have hsz1 := box1 hb
    have HOW := Lib.hid hown
    clear hown hc1
    go_wp2_with fail
    refine (KF.out _ _ _ _ HOW.out).mono ?_
    rintro e w2 ⟨rfl, hb2⟩
    have hb12 := hb.trans (hb2.mono hb.size)
    obtain ⟨hcl2, hfz2⟩ := bcell hb12
    have hsz2 := box1 hb12
    have hbe := box_below hb12
    clear hb hb2 hcl hfz hsz1
    unfold Dy.v
    go_wp2_with fail
    refine bodyPost_ret (v := .tuple #[(mkD g n x).v, .int .i64 (mkE n x)]) (by simp [results, Tryz.results64, go_sem, hcl2, hsz2, Dy.v]) rfl ⟨rfl, ?_⟩
    repeat (refine Below.setCell ?_ (by simp) _)
    exact hbe
end Go.Proofs.YtjalpocjgpgcfaaGreatDoor
set_option linter.unusedSimpArgs false
set_option linter.unusedVariables false
namespace Go.Proofs.YtjalpocjgpgcfaaGreatDoor
open Go Go.RowKit Nt

set_option maxRecDepth 100000 in
theorem DMake_bad (g : Bool) (s : ByteArray) (x : Int) (w : World) (h : ¬ May s) :
    Calls Tryz.prog 52 #[.bool g, .string s, .int .i64 x] w fun e w' => e = .returned (.tuple #[.agg #[.bool false, .string ⟨#[]⟩, .int .i64 0], .int .i64 2]) ∧ Below w.heap.size w w' := by
  have H := Lib.hid h
  clear h
  go_enter Tryz.func52, Tryz.ntmps52
  go_wp2_with (go_at_call 83; refine (NLow_no _ _ H.out).mono ?_; rintro e w1 ⟨rfl, hb⟩; obtain ⟨hcl, hfz⟩ := bcell hb; have hsz := box1 hb)
  refine bodyPost_ret (v := .tuple #[.agg #[.bool false, .string ⟨#[]⟩, .int .i64 0], .int .i64 2]) (by simp [results, Tryz.results52, go_sem, hcl, hsz]) rfl ⟨rfl, ?_⟩
  repeat (refine Below.setCell ?_ (by simp) _)
  exact box_below hb
set_option maxRecDepth 100000 in
theorem DMake_zero (g : Bool) (x : Int) (w : World) :
    Calls Tryz.prog 52 #[.bool g, .string (natS 0), .int .i64 x] w (MkPost g 0 x w) := by
  have K := Lib.hid (fun w => NLow_c 0 0 w fits_zero ⟨fun _ => rfl, fun c => absurd rfl c⟩)
  rw [natS_zero] at K ⊢
  go_enter Tryz.func52, Tryz.ntmps52
  go_wp2_with (go_at_call 83; refine (K.out _).mono ?_; rintro e w1 ⟨rfl, hb⟩; obtain ⟨hcl, hfz⟩ := bcell hb; have hsz := box1 hb)
  refine bodyPost_ret (v := .tuple #[.agg #[.bool false, .string ⟨#[]⟩, .int .i64 0], .int .i64 0]) (by simp [results, Tryz.results52, go_sem, hcl, hsz]) rfl (MkPost.zero rfl ?_)
  repeat (refine Below.setCell ?_ (by simp) _)
  exact box_below hb
set_option maxRecDepth 100000 in
set_option maxHeartbeats 1000000 in
theorem DMake_no (g : Bool) (n : Nat) (x : Int) (w : World) (hf : fits n) (h0 : n ≠ 0) (hno : ¬ mkOk3 n x) (hx : -9223372036854775808 ≤ x ∧ x ≤ 9223372036854775807) :
    Calls Tryz.prog 52 #[.bool g, .string (natS n), .int .i64 x] w (MkPost g n x w) := by
  obtain ⟨l, hl⟩ : ∃ l, l = lowN n := ⟨_, rfl⟩
  have hll := low_lt h0 (lowN_is n)
  have hbb := bits_131072' hf
  have K := Lib.hid (fun w => NLow_c n l w hf (hl ▸ lowN_is n))
  have hE := natS_full h0
  have hE2 := natS_full2 h0
  have hlb : l ≤ 131072 := by omega
  have hcase : 1048576 < x ∨ (¬ 1048576 < x ∧ x < -1179648) ∨ (¬ 1048576 < x ∧ ¬ x < -1179648 ∧ 1048576 < x + (l : Int)) ∨ (¬ 1048576 < x ∧ ¬ x < -1179648 ∧ ¬ 1048576 < x + (l : Int) ∧ x + (l : Int) < -1048576) := by
    have ho : fits (odN n) := by unfold fits at *; exact Nat.le_trans (nd_mono (by omega) (odN_le n)) hf
    unfold mkOk3 at hno
    rw [← hl] at hno
    by_cases c1 : 1048576 < x
    · exact Or.inl c1
    by_cases c2 : x < -1179648
    · exact Or.inr (Or.inl ⟨c1, c2⟩)
    by_cases c3 : 1048576 < x + (l : Int)
    · exact Or.inr (Or.inr (Or.inl ⟨c1, c2, c3⟩))
    by_cases c4 : x + (l : Int) < -1048576
    · exact Or.inr (Or.inr (Or.inr ⟨c1, c2, c3, c4⟩))
    · exact absurd (Or.inr ⟨ho, by omega, by omega⟩) hno
  have HNO := Lib.hid hno
  clear hno hl hll hbb hf h0
  rcases hcase with c1 | ⟨c1, c2⟩ | ⟨c1, c2, c3⟩ | ⟨c1, c2, c3, c4⟩
  all_goals
    go_enter Tryz.func52, Tryz.ntmps52
    go_wp2_with (go_at_call 83; refine (K.out _).mono ?_; rintro e w1 ⟨rfl, hb⟩; obtain ⟨hcl, hfz⟩ := bcell hb; have hsz := box1 hb)
    refine bodyPost_ret (v := .tuple #[.agg #[.bool false, .string ⟨#[]⟩, .int .i64 0], .int .i64 4]) (by simp [results, Tryz.results52, go_sem, hcl, hsz]) rfl (MkPost.no HNO.out rfl ?_)
    repeat (refine Below.setCell ?_ (by simp) _)
    exact box_below hb
set_option maxRecDepth 100000 in
set_option maxHeartbeats 1000000 in
theorem DMake_ok (g : Bool) (n : Nat) (x : Int) (w : World) (hf : fits n) (h0 : n ≠ 0) (hok : mkOk3 n x) :
    Calls Tryz.prog 52 #[.bool g, .string (natS n), .int .i64 x] w (MkPost g n x w) := by
  obtain ⟨l, hl⟩ : ∃ l, l = lowN n := ⟨_, rfl⟩
  obtain ⟨o, ho⟩ : ∃ o, o = odN n := ⟨_, rfl⟩
  have hll := low_lt h0 (lowN_is n)
  rw [← hl] at hll
  have hbb := bits_131072' hf
  have K := Lib.hid (fun w => NLow_c n l w hf (hl ▸ lowN_is n))
  have KS : Hid (0 < l → ∀ w, Calls Tryz.prog 84 #[.string (natS n), .int .i64 (-(l : Int))] w (StrPost (natS o) 0 w)) := Lib.hid fun hl0 w => by
    have := NShift_down n l w hf h0 hl0 hll
    rw [hl] at this ⊢
    rw [ho]; exact this
  have hE := natS_full h0
  have hE2 := natS_full2 h0
  have hlb : l ≤ 131072 := by omega
  have hcase : ¬ 1048576 < x ∧ ¬ x < -1179648 ∧ ¬ 1048576 < x + (l : Int) ∧ ¬ x + (l : Int) < -1048576 := by
    have hk := hok
    unfold mkOk3 at hk
    rw [← hl] at hk
    rcases hk with hk | ⟨hk1, hk2, hk3⟩
    · exact absurd hk h0
    · exact ⟨by omega, by omega, by omega, by omega⟩
  have HOK := Lib.hid (fun (w' : World) (e : Ending) => @MkPost.ok g n x h0 hok w e w')
  rw [← hl, ← ho] at HOK
  have hon : l = 0 → o = n := fun c => by rw [ho]; unfold odN; rw [← hl, c, Nat.pow_zero, Nat.div_one]
  obtain ⟨c1, c2, c3, c4⟩ := hcase
  have HON := Lib.hid hon
  clear hok hl ho hll hbb hf h0 hon
  rcases Nat.eq_zero_or_pos l with hz | hz
  · subst hz
    obtain rfl := HON.out rfl
    go_enter Tryz.func52, Tryz.ntmps52
    go_wp2_with (go_at_call 83; refine (K.out _).mono ?_; rintro e w1 ⟨rfl, hb⟩; obtain ⟨hcl, hfz⟩ := bcell hb; have hsz := box1 hb)
    refine bodyPost_ret (v := .tuple #[.agg #[.bool g, .string (natS o), .int .i64 (x + ((0 : Nat) : Int))], .int .i64 0]) (by simp [results, Tryz.results52, go_sem, hcl, hsz]) rfl (HOK.out _ _ rfl ?_)
    repeat (refine Below.setCell ?_ (by simp) _)
    exact box_below hb
  · go_enter Tryz.func52, Tryz.ntmps52
    go_wp2_with (first
      | (go_at_call 83; refine (K.out _).mono ?_; rintro e w1 ⟨rfl, hb⟩)
      | (go_at_call 84; refine (KS.out hz _).mono ?_; rintro e w2 ⟨rfl, hb2⟩; have hb12 := hb.trans (hb2.mono hb.size); obtain ⟨hcl, hfz⟩ := bcell hb12; have hsz := box1 hb12))
    refine bodyPost_ret (v := .tuple #[.agg #[.bool g, .string (natS o), .int .i64 (x + (l : Int))], .int .i64 0]) (by simp [results, Tryz.results52, go_sem, hcl, hsz]) rfl (HOK.out _ _ rfl ?_)
    repeat (refine Below.setCell ?_ (by simp) _)
    exact box_below hb12
theorem DMake_c (g : Bool) (n : Nat) (x : Int) (w : World) (hf : fits n) (hx : -9223372036854775808 ≤ x ∧ x ≤ 9223372036854775807) :
    Calls Tryz.prog 52 #[.bool g, .string (natS n), .int .i64 x] w (MkPost g n x w) := by
  by_cases h0 : n = 0
  · subst h0; exact DMake_zero g x w
  · by_cases hk : mkOk3 n x
    · exact DMake_ok g n x w hf h0 hk
    · exact DMake_no g n x w hf h0 hk hx
end Go.Proofs.YtjalpocjgpgcfaaGreatDoor
set_option linter.unusedSimpArgs false
set_option linter.unusedVariables false
namespace Go.Proofs.YtjalpocjgpgcfaaGreatDoor
open Go Go.RowKit Nt

theorem abs_fits {m : Nat} (h : m < 18446744073709551616) : fits m := by have := br_lt.2 h; unfold fits; omega
theorem neg_words {z : Int} (h1 : -9223372036854775808 ≤ z) (h2 : z < 0) : IntKind.u64.wrap z = z + 18446744073709551616 ∧ IntKind.u64.wrap (-(z + 18446744073709551616)) = (z.natAbs : Int) := by
  rw [IntKind.wrap_u64, IntKind.wrap_u64]; omega
theorem pos_words {z : Int} (h1 : z ≤ 9223372036854775807) (h2 : ¬ z < 0) : IntKind.u64.wrap z = (z.natAbs : Int) := by
  rw [IntKind.wrap_u64]; omega
set_option maxRecDepth 100000 in
set_option maxHeartbeats 1000000 in
theorem DOf_c (z x : Int) (w : World) (hz : -9223372036854775808 ≤ z ∧ z ≤ 9223372036854775807) (hx : -9223372036854775808 ≤ x ∧ x ≤ 9223372036854775807) :
    Calls Tryz.prog 27 #[.int .i64 z, .int .i64 x] w (MkPost (decide (z < 0)) z.natAbs x w) := by
  obtain ⟨m, hm⟩ : ∃ m, m = z.natAbs := ⟨_, rfl⟩
  have hmb : m < 18446744073709551616 := by omega
  have KO := Lib.hid (fun w => Of_n m w hmb)
  have KM := Lib.hid (fun g w => DMake_c g m x w (abs_fits hmb) hx)
  rw [← hm]
  by_cases h0 : z < 0
  · obtain ⟨e1, e2⟩ := neg_words hz.1 h0
    rw [← hm] at e2
    have hd : decide (z < 0) = true := decide_eq_true h0
    rw [hd]
    clear hm hmb hx hz
    go_enter Tryz.func27, Tryz.ntmps27
    go_wp2_with (first
      | (go_at_call 53; refine (KO.out _).mono ?_; rintro e w1 ⟨rfl, hb⟩)
      | (go_at_call 52; refine (KM.out _ _).mono ?_; rintro e w2 ⟨rfl, hb2⟩; have hb12 := hb.trans (hb2.mono hb.size); obtain ⟨hcl, hfz⟩ := bcell hb12; have hsz := box1 hb12; unfold Dy.v))
    refine bodyPost_ret (v := .tuple #[(mkD true m x).v, .int .i64 (mkE m x)]) (by simp [results, Tryz.results27, go_sem, hcl, hsz, Dy.v]) rfl ⟨rfl, ?_⟩
    repeat (refine Below.setCell ?_ (by simp) _)
    exact box_below hb12
  · have e1 := pos_words hz.2 h0
    rw [← hm] at e1
    have hd : decide (z < 0) = false := decide_eq_false h0
    rw [hd]
    clear hm hmb hx hz
    go_enter Tryz.func27, Tryz.ntmps27
    go_wp2_with (first
      | (go_at_call 53; refine (KO.out _).mono ?_; rintro e w1 ⟨rfl, hb⟩)
      | (go_at_call 52; refine (KM.out _ _).mono ?_; rintro e w2 ⟨rfl, hb2⟩; have hb12 := hb.trans (hb2.mono hb.size); obtain ⟨hcl, hfz⟩ := bcell hb12; have hsz := box1 hb12; unfold Dy.v))
    refine bodyPost_ret (v := .tuple #[(mkD false m x).v, .int .i64 (mkE m x)]) (by simp [results, Tryz.results27, go_sem, hcl, hsz, Dy.v]) rfl ⟨rfl, ?_⟩
    repeat (refine Below.setCell ?_ (by simp) _)
    exact box_below hb12
set_option maxRecDepth 100000 in
set_option maxHeartbeats 1000000 in
theorem rOfD3_c (z x : Int) (w : World) (hz : -9223372036854775808 ≤ z ∧ z ≤ 9223372036854775807) (hx : -9223372036854775808 ≤ x ∧ x ≤ 9223372036854775807) :
    Calls Tryz.prog 37 #[.int .i64 z, .int .i64 x] w (MkPost (decide (z < 0)) z.natAbs x w) := by
  obtain ⟨m, hm⟩ : ∃ m, m = z.natAbs := ⟨_, rfl⟩
  have hmb : m < 18446744073709551616 := by omega
  have KO := Lib.hid (fun w => rOf_c m w hmb)
  have KM := Lib.hid (fun g w => rMake3_c g m x w (abs_fits hmb) hx)
  rw [← hm]
  by_cases h0 : z < 0
  · obtain ⟨e1, e2⟩ := neg_words hz.1 h0
    rw [← hm] at e2
    have hd : decide (z < 0) = true := decide_eq_true h0
    rw [hd]
    clear hm hmb hx hz
    go_enter Tryz.func37, Tryz.ntmps37
    go_wp2_with (first
      | (go_at_call 65; refine (KO.out _).mono ?_; rintro e w1 ⟨rfl, hb⟩)
      | (go_at_call 64; refine (KM.out _ _).mono ?_; rintro e w2 ⟨rfl, hb2⟩; have hb12 := hb.trans (hb2.mono hb.size); obtain ⟨hcl, hfz⟩ := bcell hb12; have hsz := box1 hb12; unfold Dy.v))
    refine bodyPost_ret (v := .tuple #[(mkD true m x).v, .int .i64 (mkE m x)]) (by simp [results, Tryz.results37, go_sem, hcl, hsz, Dy.v]) rfl ⟨rfl, ?_⟩
    repeat (refine Below.setCell ?_ (by simp) _)
    exact box_below hb12
  · have e1 := pos_words hz.2 h0
    rw [← hm] at e1
    have hd : decide (z < 0) = false := decide_eq_false h0
    rw [hd]
    clear hm hmb hx hz
    go_enter Tryz.func37, Tryz.ntmps37
    go_wp2_with (first
      | (go_at_call 65; refine (KO.out _).mono ?_; rintro e w1 ⟨rfl, hb⟩)
      | (go_at_call 64; refine (KM.out _ _).mono ?_; rintro e w2 ⟨rfl, hb2⟩; have hb12 := hb.trans (hb2.mono hb.size); obtain ⟨hcl, hfz⟩ := bcell hb12; have hsz := box1 hb12; unfold Dy.v))
    refine bodyPost_ret (v := .tuple #[(mkD false m x).v, .int .i64 (mkE m x)]) (by simp [results, Tryz.results37, go_sem, hcl, hsz, Dy.v]) rfl ⟨rfl, ?_⟩
    repeat (refine Below.setCell ?_ (by simp) _)
    exact box_below hb12
end Go.Proofs.YtjalpocjgpgcfaaGreatDoor
set_option linter.unusedSimpArgs false
set_option linter.unusedVariables false
namespace Go.Proofs.YtjalpocjgpgcfaaGreatDoor
open Go Go.RowKit Nt

/-- Any value of the type Dyad. -/
structure Dt where
  g : Bool
  s : ByteArray
  x : Int
def Dt.v (t : Dt) : Value := .agg #[.bool t.g, .string t.s, .int .i64 t.x]
def Dt.Ok (t : Dt) : Prop := DOk t.g t.s t.x
theorem Dt.small {t : Dt} (h : t.Ok) : t.s.size ≤ 16384 := by
  rcases h with ⟨h, _⟩ | ⟨n, hf, _, h, _⟩
  · rw [h]; decide
  · rw [h, natS_size]; exact hf
open Classical in
@[irreducible] noncomputable def dE (l : List Dt) : Int := if ∀ t ∈ l, t.Ok then 0 else 2
theorem dE_ok {l : List Dt} (h : ∀ t ∈ l, t.Ok) : dE l = 0 := by unfold dE; rw [if_pos h]
theorem dE_no {l : List Dt} {t : Dt} (h : t ∈ l) (hn : ¬ t.Ok) : dE l = 2 := by unfold dE; rw [if_neg (fun c => hn (c t h))]
theorem DCheck_c (t : Dt) (w : World) (hs : t.s.size ≤ 9223372036854775807) : Calls Tryz.prog 30 #[.agg #[.bool t.g, .string t.s, .int .i64 t.x]] w fun e w' => e = .returned (.int .i64 (dE [t])) ∧ Below w.heap.size w w' := by
  by_cases h : t.Ok
  · rw [dE_ok (fun u hu => by rw [List.mem_singleton.1 hu]; exact h)]
    rcases h with ⟨e1, e2, e3⟩ | ⟨n, hf, ho, e1, h1, h2⟩
    · rw [e1, e2, e3]; exact DCheck_zero w
    · rw [e1]; exact DCheck_num t.g n t.x w hf ho h1 h2
  · rw [dE_no (List.mem_singleton.2 rfl) h]
    exact DCheck_bad t.g t.s t.x w hs h
/-- A row of Dyads. -/
def Dts (w : World) (A : Option Addr) (l : List Dt) : Prop := 0 < l.length → ∃ ad, A = some ad ∧ ad.block < w.heap.size ∧ ∀ j (h : j < l.length), w.cell? (ad.add (j * 3)) = some (.bool l[j].g) ∧ w.cell? ⟨(ad.add (j * 3)).block, (ad.add (j * 3)).off + 1, none⟩ = some (.string l[j].s) ∧ w.cell? ⟨(ad.add (j * 3)).block, (ad.add (j * 3)).off + 2, none⟩ = some (.int .i64 l[j].x)
theorem Dts.below {w w' : World} {A : Option Addr} {l : List Dt} (h : Dts w A l) (hb : Below w.heap.size w w') : Dts w' A l := fun h0 => by
  obtain ⟨ad, e, hl, hc⟩ := h h0
  refine ⟨ad, e, Nat.lt_of_lt_of_le hl hb.size, fun j hj => ?_⟩
  obtain ⟨c1, c2, c3⟩ := hc j hj
  exact ⟨(hb.cell (p := ad.add (j * 3)) (by rw [block_of_add']; exact hl)).trans c1, (hb.cell (p := ⟨(ad.add (j * 3)).block, (ad.add (j * 3)).off + 1, none⟩) (by show (ad.add (j * 3)).block < _; rw [block_of_add']; exact hl)).trans c2, (hb.cell (p := ⟨(ad.add (j * 3)).block, (ad.add (j * 3)).off + 2, none⟩) (by show (ad.add (j * 3)).block < _; rw [block_of_add']; exact hl)).trans c3⟩
set_option maxRecDepth 100000 in
set_option maxHeartbeats 1000000 in
theorem Dall_c (A : Option Addr) (c : Nat) (l : List Dt) (w : World) (hl : l.length ≤ 9223372036854775807) (hs : ∀ t ∈ l, t.s.size ≤ 9223372036854775807) (h : Dts w A l) :
    Calls Tryz.prog 39 #[.slice A l.length c] w fun e w' => e = .returned (.int .i64 (dE l)) ∧ Below w.heap.size w w' := by
  have HD := Lib.hid h
  have HS := Lib.hid hs
  clear h hs
  go_enter Tryz.func39, Tryz.ntmps39
  go_wp2
  go_loopw [8] (fun i wr => ∃ k : Nat, k ≤ l.length ∧ i = .int .i64 k ∧ Hid (∀ j (h : j < l.length), j < k → l[j].Ok) ∧ Below w.heap.size w wr) (fun i _ => l.length - (intOf i).toNat)
  case atStart => exact ⟨0, Nat.zero_le _, rfl, Lib.hid (fun j _ h => by omega), Below.refl _ _⟩
  case round =>
    obtain ⟨k, hk, rfl, hok, hb⟩ := hrel
    by_cases hlt : k < l.length
    · obtain ⟨ad, rfl, hadb, hc⟩ := (HD.out.below hb) (by omega)
      obtain ⟨c1, c2, c3⟩ := hc k hlt
      have K := Lib.hid (fun w => DCheck_c l[k] w (HS.out _ (List.getElem_mem hlt)))
      by_cases hok1 : l[k].Ok
      · have e0 := dE_ok (l := [l[k]]) (fun u hu => by rw [List.mem_singleton.1 hu]; exact hok1)
        rw [e0] at K
        have HOK := Lib.hid (show ∀ j (h : j < l.length), j < k + 1 → l[j].Ok from fun j hj h2 => by
          rcases Nat.lt_or_ge j k with h3 | h3
          · exact hok.out j hj h3
          · obtain rfl : j = k := by omega
            exact hok1)
        clear e0 hok1 hc
        go_wp2_with fail
        refine (K.out _).mono ?_
        rintro e w2 ⟨rfl, hb2⟩
        have hb3 := below_chain hb (box_below hb2)
        clear hb2
        go_wp2_with fail
        go_roundw
        case rel => exact ⟨k + 1, by omega, by go_num, HOK, hb3⟩
        case measure => simp [intOf]; omega
      · have e0 := dE_no (l := [l[k]]) (List.mem_singleton.2 rfl) hok1
        have e1 := dE_no (l := l) (List.getElem_mem hlt) hok1
        rw [e0] at K
        have HE := Lib.hid e1
        clear e0 e1 hok1 hc
        go_wp2_with fail
        refine (K.out _).mono ?_
        rintro e w2 ⟨rfl, hb2⟩
        have hb3 := below_chain hb (box_below hb2)
        clear hb2
        go_wp2_with fail
        go_ret
        exact ⟨by rw [HE.out]; rfl, hb3⟩
    · have e1 := dE_ok (l := l) (fun t ht => by
        obtain ⟨j, hj, rfl⟩ := List.getElem_of_mem ht
        exact hok.out j hj (by omega))
      have HE := Lib.hid e1
      clear e1
      go_wp2_with fail
      go_ret
      exact ⟨by rw [HE.out]; rfl, hb⟩
end Go.Proofs.YtjalpocjgpgcfaaGreatDoor
namespace Go.Proofs.YtjalpocjgpgcfaaGreatDoor.Bt.Ff
open Ieee

def rung (x : Nat) : Nat := x % 9223372036854775808
def sgn (x : Nat) : Bool := x / 9223372036854775808 % 2 == 1
def isn (x : Nat) : Prop := 9218868437227405312 < rung x
instance (x : Nat) : Decidable (isn x) := by unfold isn; exact inferInstance
def srung (x : Nat) : Int := if sgn x then -(rung x : Int) else (rung x : Int)
def mag (r : Nat) : Nat := if r < 4503599627370496 then r else (4503599627370496 + r % 4503599627370496) * 2 ^ (r / 4503599627370496 - 1)

theorem sw : double.signWeight = 9223372036854775808 := by decide
theorem bin : double.binade = 4503599627370496 := by decide
theorem infr : double.infRung = 9218868437227405312 := by decide
theorem lp : double.leastPlace = -1074 := by decide

theorem read_eq (x : Nat) : double.read x =
    if rung x < 4503599627370496 then .number (sgn x) (rung x) (-1074)
    else if rung x < 9218868437227405312 then .number (sgn x) (4503599627370496 + rung x % 4503599627370496) (-1074 + ((rung x / 4503599627370496 - 1 : Nat) : Int))
    else if rung x = 9218868437227405312 then .infinity (sgn x) else .nan (sgn x) (rung x - 9218868437227405312) := by
  unfold Format.read
  rw [sw, bin, infr, lp]
  rfl

theorem mag_small {r : Nat} (h : r < 4503599627370496) : mag r = r := by unfold mag; rw [if_pos h]
theorem mag_big {r : Nat} (h : ¬ r < 4503599627370496) : mag r = (4503599627370496 + r % 4503599627370496) * 2 ^ (r / 4503599627370496 - 1) := by unfold mag; rw [if_neg h]

theorem mag_step (r : Nat) : mag r < mag (r + 1) := by
  by_cases h : r < 4503599627370496
  · by_cases h2 : r + 1 < 4503599627370496
    · rw [mag_small h, mag_small h2]; omega
    · rw [mag_small h, mag_big h2]
      have e : r + 1 = 4503599627370496 := by omega
      have q : (4503599627370496 + 4503599627370496 % 4503599627370496) * 2 ^ (4503599627370496 / 4503599627370496 - 1) = 4503599627370496 := by simp
      rw [e, q]; omega
  · have h2 : ¬ r + 1 < 4503599627370496 := by omega
    rw [mag_big h, mag_big h2]
    by_cases hm : r % 4503599627370496 = 4503599627370495
    · have e1 : (r + 1) % 4503599627370496 = 0 := by omega
      have e2 : (r + 1) / 4503599627370496 - 1 = (r / 4503599627370496 - 1) + 1 := by omega
      rw [e1, e2, hm, Nat.pow_succ]
      have hp : 0 < 2 ^ (r / 4503599627370496 - 1) := Nat.two_pow_pos _
      generalize 2 ^ (r / 4503599627370496 - 1) = p at hp
      omega
    · have e1 : (r + 1) % 4503599627370496 = r % 4503599627370496 + 1 := by omega
      have e2 : (r + 1) / 4503599627370496 = r / 4503599627370496 := by omega
      rw [e1, e2]
      exact Nat.mul_lt_mul_of_pos_right (by omega) (Nat.two_pow_pos _)

theorem mag_lt {r s : Nat} (h : r < s) : mag r < mag s := by
  obtain ⟨k, rfl⟩ : ∃ k, s = r + 1 + k := ⟨s - (r + 1), by omega⟩
  clear h
  induction k with
  | zero => exact mag_step r
  | succ k ih => exact Nat.lt_trans ih (mag_step _)
theorem mag_lt_iff {r s : Nat} : mag r < mag s ↔ r < s := by
  constructor
  · intro h
    by_cases c : r < s
    · exact c
    · rcases Nat.lt_or_eq_of_le (Nat.le_of_not_lt c) with c | c
      · have := mag_lt c; omega
      · subst c; omega
  · exact mag_lt
theorem mag_zero : mag 0 = 0 := rfl
theorem mag_pos {r : Nat} (h : 0 < r) : 0 < mag r := by have := mag_lt h; rw [mag_zero] at this; exact this

/-- The signed size of a word, over 2 to the power -1074. -/
def sv (x : Nat) : Int := if sgn x then -(mag (rung x) : Int) else (mag (rung x) : Int)
theorem sv_lt {x y : Nat} : sv x < sv y ↔ srung x < srung y := by
  have h1 : mag (rung x) < mag (rung y) ↔ rung x < rung y := mag_lt_iff
  have h2 : mag (rung y) < mag (rung x) ↔ rung y < rung x := mag_lt_iff
  have h3 : 0 < mag (rung x) ↔ 0 < rung x := by have := @mag_lt_iff 0 (rung x); rwa [mag_zero] at this
  have h4 : 0 < mag (rung y) ↔ 0 < rung y := by have := @mag_lt_iff 0 (rung y); rwa [mag_zero] at this
  unfold sv srung
  split <;> split <;> omega

theorem compare_congr {a b c d : Int} (h : a < b ↔ c < d) (h' : b < a ↔ d < c) : compare a b = compare c d := by
  simp only [compare, compareOfLessAndEq]
  by_cases e : a < b
  · rw [if_pos e, if_pos (h.1 e)]
  · rw [if_neg e, if_neg (fun x => e (h.2 x))]
    by_cases f : a = b
    · rw [if_pos f, if_pos (by omega)]
    · rw [if_neg f, if_neg (by omega)]

theorem signed_eq (s : Bool) (m u : Nat) : signed s m u = if s then -((m * 2 ^ u : Nat) : Int) else ((m * 2 ^ u : Nat) : Int) := by
  unfold signed; rw [Nat.shiftLeft_eq]
theorem signed_scale (s : Bool) (m u k : Nat) : signed s m u * ((2 ^ k : Nat) : Int) = signed s m (u + k) := by
  rw [signed_eq, signed_eq, Nat.pow_add]
  have : (m * (2 ^ u * 2 ^ k)) = (m * 2 ^ u) * 2 ^ k := by rw [Nat.mul_assoc]
  rw [this]
  split
  · rw [Int.neg_mul]; rfl
  · rfl

theorem order_num (s t : Bool) (m n : Nat) (i j : Nat) :
    Datum.order (.number s m (-1074 + (i : Int))) (.number t n (-1074 + (j : Int))) = some (compare (signed s m i) (signed t n j)) := by
  simp only [Datum.order]
  congr 1
  obtain ⟨b, hb, h1, h2⟩ : ∃ b : Nat, min (-1074 + (i : Int)) (-1074 + (j : Int)) = -1074 + (b : Int) ∧ b ≤ i ∧ b ≤ j := by
    by_cases h : i ≤ j
    · exact ⟨i, by omega, by omega, h⟩
    · exact ⟨j, by omega, by omega, by omega⟩
  rw [hb]
  have e1 : (-1074 + (i : Int) - (-1074 + (b : Int))).toNat = i - b := by omega
  have e2 : (-1074 + (j : Int) - (-1074 + (b : Int))).toNat = j - b := by omega
  rw [e1, e2]
  have f1 := signed_scale s m (i - b) b
  have f2 := signed_scale t n (j - b) b
  rw [Nat.sub_add_cancel h1] at f1
  rw [Nat.sub_add_cancel h2] at f2
  rw [← f1, ← f2]
  have hp : (0 : Int) < ((2 ^ b : Nat) : Int) := by have := Nat.two_pow_pos b; omega
  apply compare_congr
  · exact (Int.mul_lt_mul_right hp).symm
  · exact (Int.mul_lt_mul_right hp).symm

/-- A finite word read. -/
theorem read_fin {x : Nat} (h : rung x < 9218868437227405312) : ∃ m i : Nat, double.read x = .number (sgn x) m (-1074 + (i : Int)) ∧ m * 2 ^ i = mag (rung x) := by
  rw [read_eq]
  by_cases c : rung x < 4503599627370496
  · rw [if_pos c]; exact ⟨rung x, 0, rfl, by rw [mag_small c]; simp⟩
  · rw [if_neg c, if_pos h]; exact ⟨_, _, rfl, by rw [mag_big c]⟩
theorem read_inf {x : Nat} (h : rung x = 9218868437227405312) : double.read x = .infinity (sgn x) := by
  rw [read_eq, if_neg (by omega), if_neg (by omega), if_pos h]
theorem read_nan {x : Nat} (h : isn x) : double.read x = .nan (sgn x) (rung x - 9218868437227405312) := by
  unfold isn at h
  rw [read_eq, if_neg (by omega), if_neg (by omega), if_neg (by omega)]

theorem rung_lt (x : Nat) : rung x < 9223372036854775808 := Nat.mod_lt _ (by decide)

theorem signed_sv {x m i : Nat} (h : m * 2 ^ i = mag (rung x)) : signed (sgn x) m i = sv x := by
  rw [signed_eq, h]; rfl

/-- THE ORDER OF TWO WORDS. -/
theorem order_eq (x y : Nat) : double.order x y = if isn x ∨ isn y then none else some (compare (srung x) (srung y)) := by
  unfold Format.order
  by_cases hx : isn x
  · rw [if_pos (Or.inl hx), read_nan hx]; rfl
  · by_cases hy : isn y
    · rw [if_pos (Or.inr hy), read_nan hy]; cases double.read x <;> rfl
    · rw [if_neg (fun h => h.elim hx hy)]
      have lx : rung x ≤ 9218868437227405312 := by unfold isn at hx; omega
      have ly : rung y ≤ 9218868437227405312 := by unfold isn at hy; omega
      rcases Nat.lt_or_eq_of_le lx with lx | lx <;> rcases Nat.lt_or_eq_of_le ly with ly | ly
      · obtain ⟨m, i, hm, em⟩ := read_fin lx
        obtain ⟨n, j, hn, en⟩ := read_fin ly
        rw [hm, hn, order_num, signed_sv em, signed_sv en]
        exact congrArg some (compare_congr sv_lt sv_lt)
      · obtain ⟨m, i, hm, em⟩ := read_fin lx
        rw [hm, read_inf ly]
        simp only [Datum.order, srung, ly]
        cases sgn y <;> simp only [if_true, if_false, Bool.false_eq_true] <;> congr 1 <;> symm
        · rw [show compare (if sgn x = true then -(rung x : Int) else (rung x : Int)) ((9218868437227405312 : Nat) : Int) = compare (0 : Int) 1 from compare_congr (by split <;> omega) (by split <;> omega)]; rfl
        · rw [show compare (if sgn x = true then -(rung x : Int) else (rung x : Int)) (-((9218868437227405312 : Nat) : Int)) = compare (1 : Int) 0 from compare_congr (by split <;> omega) (by split <;> omega)]; rfl
      · obtain ⟨n, j, hn, en⟩ := read_fin ly
        rw [hn, read_inf lx]
        simp only [Datum.order, srung, lx]
        cases sgn x <;> simp only [if_true, if_false, Bool.false_eq_true] <;> congr 1 <;> symm
        · rw [show compare ((9218868437227405312 : Nat) : Int) (if sgn y = true then -(rung y : Int) else (rung y : Int)) = compare (1 : Int) 0 from compare_congr (by split <;> omega) (by split <;> omega)]; rfl
        · rw [show compare (-((9218868437227405312 : Nat) : Int)) (if sgn y = true then -(rung y : Int) else (rung y : Int)) = compare (0 : Int) 1 from compare_congr (by split <;> omega) (by split <;> omega)]; rfl
      · rw [read_inf lx, read_inf ly]
        simp only [Datum.order, srung, lx, ly]
        cases sgn x <;> cases sgn y <;> decide

end Go.Proofs.YtjalpocjgpgcfaaGreatDoor.Bt.Ff
set_option linter.unusedSimpArgs false
set_option linter.unusedVariables false
namespace Go.Proofs.YtjalpocjgpgcfaaGreatDoor.Bt
open Go Ff

theorem ext_bits (b : Nat) (w : World) : (callFunc 96 #[.float .f64 b]).run Tryz.prog w = .ok (.value (.int .u64 b)) w := by kernel_rfl
theorem ext_from (b : Nat) (w : World) : (callFunc 101 #[.int .u64 b]).run Tryz.prog w = .ok (.value (.float .f64 b)) w := by kernel_rfl

theorem isn_iff (x : Nat) : isn x ↔ 9218868437227405312 < rung x := Iff.rfl
theorem isn_ne (x : Nat) : (FloatKind.f64.format.order x x != some Ordering.eq) = decide (isn x) := by
  rw [show FloatKind.f64.format.order x x = _ from order_eq x x]
  by_cases h : isn x
  · simp [h]
  · simp [h, compare, compareOfLessAndEq]
theorem and_not_top (x : Nat) (hx : x < 18446744073709551616) : bits BinOp.andNot IntKind.u64 (x : Int) 9223372036854775808 = ((rung x : Nat) : Int) := by
  rw [show (9223372036854775808 : Int) = ((9223372036854775808 : Nat) : Int) from rfl, u64_andNot_nat x _ hx (by decide)]
  congr 1
  exact Nat.and_two_pow_sub_one_eq_mod x 63
theorem and_top (x : Nat) (hx : x < 18446744073709551616) : bits BinOp.and IntKind.u64 (x : Int) 9223372036854775808 = if sgn x then 9223372036854775808 else 0 := by
  rw [show (9223372036854775808 : Int) = ((9223372036854775808 : Nat) : Int) from rfl, u64_and_nat x _ hx (by decide), nat_bit 63 x]
  unfold sgn
  by_cases h : x / 2 ^ 63 % 2 = 1
  · rw [h]; simp
  · have : x / 2 ^ 63 % 2 = 0 := by omega
    rw [this]; simp

def kind (x : Nat) : Nat := if isn x then 5 else if rung x = 9218868437227405312 then 4 else if rung x = 0 then 1 else if rung x < 4503599627370496 then 2 else 3

theorem ret_int {k : IntKind} {a b : Int} (h : a = b) : Ending.returned (.int k a) = .returned (.int k b) := by rw [h]
theorem ret_bool {a b : Bool} (h : a = b) : Ending.returned (.bool a) = .returned (.bool b) := by rw [h]
theorem mod_top (x : Nat) : (x : Int) % 9223372036854775808 = ((rung x : Nat) : Int) := by unfold rung; omega

@[irreducible] def infB (x : Nat) : Bool := rung x == 9218868437227405312
theorem infB_true (x : Nat) : infB x = true ↔ rung x = 9218868437227405312 := by unfold infB; exact beq_iff_eq
theorem infB_false (x : Nat) : infB x = false ↔ ¬ rung x = 9218868437227405312 := by unfold infB; exact beq_eq_false_iff_ne
@[local go_sem] theorem eq_inf (x : Nat) : ((rung x : Int) == 9218868437227405312) = infB x := by
  rw [Bool.eq_iff_iff, beq_iff_eq, infB_true]; omega

@[irreducible] def subB (x : Nat) : Bool := decide (rung x < 4503599627370496)
theorem subB_true (x : Nat) : subB x = true ↔ rung x < 4503599627370496 := by unfold subB; exact decide_eq_true_iff
theorem subB_false (x : Nat) : subB x = false ↔ ¬ rung x < 4503599627370496 := by unfold subB; exact decide_eq_false_iff_not
@[local go_sem] theorem lt_sub (x : Nat) : decide ((rung x : Int) < 4503599627370496) = subB x := by
  rw [Bool.eq_iff_iff, decide_eq_true_iff, subB_true]; omega

set_option maxRecDepth 100000 in
theorem KindOf_c (x : Nat) (hx : x < 18446744073709551616) (w : World) :
    Calls Tryz.prog 140 #[.float .f64 x] w fun e w' => e = .returned (.int .u8 (kind x)) ∧ w = w' := by
  have h44 := ext_bits
  have hb := and_not_top x hx
  have hn := isn_ne x
  have hr := rung_lt x
  go_enter Tryz.func140, Tryz.ntmps140
  go_wp2
  all_goals go_ret
  all_goals refine ⟨ret_int ?_, rfl⟩
  all_goals go_light
  all_goals clear h44 hb hn
  all_goals simp only [kind, isn_iff, beq_iff_eq, beq_eq_false_iff_ne, bne_iff_ne, bne_eq_false_iff_eq, ne_eq] at *
  all_goals repeat' split
  all_goals omega

end Go.Proofs.YtjalpocjgpgcfaaGreatDoor.Bt
set_option linter.unusedSimpArgs false
set_option linter.unusedVariables false
namespace Go.Proofs.YtjalpocjgpgcfaaGreatDoor.Bt
open Go Go.RowKit Ff

@[irreducible] def finB (x : Nat) : Bool := decide (rung x < 9218868437227405312)
theorem finB_true (x : Nat) : finB x = true ↔ rung x < 9218868437227405312 := by unfold finB; exact decide_eq_true_iff
theorem finB_false (x : Nat) : finB x = false ↔ ¬ rung x < 9218868437227405312 := by unfold finB; exact decide_eq_false_iff_not
theorem kind_lt (x : Nat) : decide ((kind x : Int) < 4) = finB x := by
  rw [Bool.eq_iff_iff, decide_eq_true_iff, finB_true]
  simp only [kind, isn_iff]
  repeat' split
  all_goals omega

theorem Finite_c (x : Nat) (hx : x < 18446744073709551616) (w : World) :
    Calls Tryz.prog 132 #[.float .f64 x] w fun e w' => e = .returned (.bool (finB x)) ∧ w = w' := by
  go_enter Tryz.func132, Tryz.ntmps132
  go_wp2_with (go_at_call 140; refine (KindOf_c _ hx _).mono ?_; rintro e w' ⟨rfl, rfl⟩)
  go_ret
  exact ⟨ret_bool (kind_lt x), rfl⟩

theorem isn_eq (x : Nat) : (FloatKind.f64.format.order x x == some Ordering.eq) = !decide (isn x) := by
  have := isn_ne x
  revert this
  cases h : (FloatKind.f64.format.order x x == some Ordering.eq) <;> simp [bne, h]
@[irreducible] def topped (b : Nat) : Nat := 9223372036854775808 + b
theorem topped_eq (b : Nat) : topped b = 9223372036854775808 + b := by unfold topped; rfl
@[irreducible] def wf (neg : Bool) (r : Nat) : Nat := if neg then topped r else r
theorem wf_eq (neg : Bool) (r : Nat) : wf neg r = if neg then topped r else r := by unfold wf; rfl
theorem signed_b (neg : Bool) (b : Nat) (hb : b < 9223372036854775808) (w : World) :
    Calls Tryz.prog 147 #[.bool neg, .int .u64 b] w fun e w' => e = .returned (.float .f64 (wf neg b)) ∧ w = w' := by
  have h12 := ext_from
  have ho : bits BinOp.or IntKind.u64 (b : Int) 9223372036854775808 = ((topped b : Nat) : Int) := by
    rw [topped_eq, show (9223372036854775808 : Int) = ((9223372036854775808 : Nat) : Int) from rfl, u64_or_nat b _ (by omega) (by decide), Nat.or_comm]
    congr 1
    exact nat_join 63 _ _ (by decide) hb
  cases neg
  all_goals
    go_enter Tryz.func147, Tryz.ntmps147
    go_wp2
    all_goals go_ret
    all_goals exact ⟨by rw [wf_eq]; rfl, rfl⟩
theorem sub_self (x : Nat) (h : rung x < 9218868437227405312) : floatBits .sub .f64 x x = some 0 := by
  show Ieee.double.sub x x = some 0
  obtain ⟨m, i, hm, _⟩ := read_fin h
  unfold Ieee.Format.sub
  rw [hm]
  simp only [Ieee.Datum.opposite, Ieee.Datum.sum, Int.min_self, Int.sub_self]
  have e : Ieee.signed (sgn x) m (Int.toNat 0) + Ieee.signed (!sgn x) m (Int.toNat 0) = 0 := by
    rw [signed_eq, signed_eq]; cases sgn x <;> simp <;> omega
  rw [e]
  simp only [if_true, Bool.and_not_self]
  rfl
theorem sub_inf (x : Nat) (h : rung x = 9218868437227405312) : Ieee.double.sub x x = none := by
  unfold Ieee.Format.sub
  rw [read_inf h]
  cases sgn x <;> rfl
theorem order_zz : (FloatKind.f64.format.order 0 0 == some Ordering.eq) = true := by decide

@[irreducible] def nanAt (w : World) (x y : Nat) : Nat := (Question.nanBits .f64 x y).cut (w.tape w.drawn (.nanBits .f64 x y))
theorem nanAt_isn (w : World) (x y : Nat) : isn (nanAt w x y) := by
  unfold nanAt Question.cut isn rung
  simp only
  generalize w.tape w.drawn (.nanBits .f64 x y) = t
  have h2 : t / 2 % (2 ^ 52 - 1) < 4503599627370495 := Nat.mod_lt _ (by decide)
  generalize t / 2 % (2 ^ 52 - 1) = u at h2
  have h3 : t % 2 = 0 ∨ t % 2 = 1 := by omega
  rcases h3 with h3 | h3 <;> rw [h3] <;> omega
theorem run_sub_nan (t : TypeId) (x y : Nat) (h : Ieee.double.sub x y = none) (w : World) :
    (binOp .sub t (.float .f64 x) (.float .f64 y)).run Tryz.prog w = .ok (.float .f64 (nanAt w x y)) w.drew := by
  have h' : FloatKind.f64.format.sub x y = none := h
  simp [binOp, Op.floatArith, h', nanAt, Question.forced]

end Go.Proofs.YtjalpocjgpgcfaaGreatDoor.Bt
set_option linter.unusedSimpArgs false
set_option linter.unusedVariables false
namespace Go.Proofs.YtjalpocjgpgcfaaGreatDoor.Bt
open Go

theorem ctzFrom_more : ∀ (f x : Nat), 0 < x → x < 2 ^ f → Lib.ctzFrom (f + 1) x = Lib.ctzFrom f x
  | 0, x, h0, h => by simp at h; omega
  | f + 1, x, h0, h => by
    have hp := Nat.pow_succ (n := 2) (m := f)
    by_cases c : x % 2 = 1
    · simp only [Lib.ctzFrom, if_pos c]
    · have ih := ctzFrom_more f (x / 2) (by omega) (by omega)
      rw [Lib.ctzFrom, if_neg c, ih, Lib.ctzFrom, if_neg c]

def tz (m : Nat) : Nat := Lib.ctz 64 m
def od (m : Nat) : Nat := m / 2 ^ tz m
theorem tz_odd {m : Nat} (h : m % 2 = 1) : tz m = 0 := by
  unfold tz Lib.ctz
  rw [if_neg (by omega), Lib.ctzFrom, if_pos h]
theorem tz_even {m : Nat} (h0 : 0 < m) (hm : m < 18446744073709551616) (h : m % 2 = 0) : tz m = tz (m / 2) + 1 := by
  unfold tz Lib.ctz
  rw [if_neg (by omega), if_neg (by omega), show (64 : Nat) = 63 + 1 from rfl, Lib.ctzFrom, if_neg (by omega), ctzFrom_more 63 (m / 2) (by omega) (by omega)]
  omega
theorem od_odd {m : Nat} (h : m % 2 = 1) : od m = m := by unfold od; rw [tz_odd h]; simp
theorem od_even {m : Nat} (h0 : 0 < m) (hm : m < 18446744073709551616) (h : m % 2 = 0) : od m = od (m / 2) := by
  unfold od
  rw [tz_even h0 hm h, Nat.pow_succ, Nat.mul_comm, Nat.div_div_eq_div_mul]
theorem tz_spec {m : Nat} (h0 : 0 < m) (hm : m < 18446744073709551616) : od m * 2 ^ tz m = m ∧ od m % 2 = 1 ∧ tz m < 64 := by
  obtain ⟨q, hq, hk⟩ := Lib.ctzFrom_spec 64 m h0 (by omega)
  have e : tz m = Lib.ctzFrom 64 m := by unfold tz Lib.ctz; rw [if_neg (by omega)]
  have e2 : od m = 2 * q + 1 := by
    unfold od; rw [e]
    have hp := Nat.two_pow_pos (Lib.ctzFrom 64 m)
    generalize Lib.ctzFrom 64 m = k at hq hp ⊢
    rw [hq, Nat.mul_comm, Nat.mul_div_cancel _ hp]
  refine ⟨?_, by omega, by omega⟩
  rw [e2, e, Nat.mul_comm]; exact hq.symm
theorem od_pos {m : Nat} (h0 : 0 < m) (hm : m < 18446744073709551616) : 0 < od m := by have := (tz_spec h0 hm).2.1; omega
theorem od_le {m : Nat} : od m ≤ m := Nat.div_le_self _ _

theorem bl_spec : ∀ (f m : Nat), m < 2 ^ f → m < 2 ^ Lib.bitLenAux f m ∧ (0 < m → 2 ^ Lib.bitLenAux f m ≤ 2 * m) ∧ Lib.bitLenAux f m ≤ f
  | 0, m, h => by simp at h; subst h; simp [Lib.bitLenAux]
  | f + 1, m, h => by
    rw [Lib.bitLenAux]
    by_cases c : m = 0
    · rw [if_pos c]; subst c; simp
    · rw [if_neg c]
      have hp := Nat.pow_succ (n := 2) (m := f)
      obtain ⟨h1, h2, h3⟩ := bl_spec f (m / 2) (by omega)
      rw [Nat.add_comm 1, Nat.pow_succ]
      refine ⟨by omega, fun _ => ?_, by omega⟩
      by_cases c2 : m / 2 = 0
      · have : m = 1 := by omega
        subst this
        have e : Lib.bitLenAux f (1 / 2) = 0 := by cases f <;> simp [Lib.bitLenAux]
        rw [e]; decide
      · have := h2 (by omega); omega
theorem bl_zero : Lib.bitLen 0 = 0 := by decide
theorem bl_lt {m : Nat} (h : m < 18446744073709551616) : m < 2 ^ Lib.bitLen m := (bl_spec 64 m h).1
theorem bl_ge {m : Nat} (h : m < 18446744073709551616) (h0 : 0 < m) : 2 ^ Lib.bitLen m ≤ 2 * m := (bl_spec 64 m h).2.1 h0
theorem bl_le {m : Nat} (h : m < 18446744073709551616) : Lib.bitLen m ≤ 64 := (bl_spec 64 m h).2.2
theorem bl_pos {m : Nat} (h0 : 0 < m) : 0 < Lib.bitLen m := by
  unfold Lib.bitLen Lib.bitLenAux; rw [if_neg (by omega)]; omega
/-- m has at most k digits just if it is below 2^k. -/
theorem bl_le_iff {m k : Nat} (h : m < 18446744073709551616) : Lib.bitLen m ≤ k ↔ m < 2 ^ k := by
  constructor
  · intro c; exact Nat.lt_of_lt_of_le (bl_lt h) (Nat.pow_le_pow_right (by decide) c)
  · intro c
    by_cases h0 : 0 < m
    · have g := bl_ge h h0
      apply Nat.le_of_not_lt
      intro d
      have e : 2 ^ (k + 1) ≤ 2 ^ Lib.bitLen m := Nat.pow_le_pow_right (by decide) d
      rw [Nat.pow_succ] at e
      omega
    · have : m = 0 := by omega
      subst this; exact Nat.zero_le _
end Go.Proofs.YtjalpocjgpgcfaaGreatDoor.Bt
set_option linter.unusedSimpArgs false
set_option linter.unusedVariables false
namespace Go.Proofs.YtjalpocjgpgcfaaGreatDoor.Bt
open Go Go.RowKit Ff

/-- What stands in the worlds of these calls: the table of the library's. -/
def Tabs (w : World) : Prop := TabAt 1 Lib.deBruijn64tab w ∧ 1 < w.heap.size
theorem Tabs.below {w w' : World} (h : Tabs w) (hb : Below w.heap.size w w') : Tabs w' :=
  ⟨fun j hj => by rw [hb.cell (p := ⟨1, j, none⟩) h.2]; exact h.1 j hj, Nat.lt_of_lt_of_le h.2 hb.size⟩

@[irreducible] def frac (x : Nat) : Nat := rung x % 4503599627370496
@[irreducible] def pm (x : Nat) : Nat := if rung x < 4503599627370496 then rung x else 4503599627370496 + rung x % 4503599627370496
@[irreducible] def pex (x : Nat) : Int := if rung x < 4503599627370496 then -1074 else -1074 + ((rung x / 4503599627370496 - 1 : Nat) : Int)
def partM (x : Nat) : Nat := if rung x = 0 then 0 else od (pm x)
def partE (x : Nat) : Int := if rung x = 0 then 0 else pex x + tz (pm x)
theorem frac_eq (x : Nat) : frac x = rung x % 4503599627370496 := by unfold frac; rfl
theorem pm_sub {x : Nat} (h : rung x < 4503599627370496) : pm x = rung x := by unfold pm; rw [if_pos h]
theorem pm_nor {x : Nat} (h : ¬ rung x < 4503599627370496) : pm x = 4503599627370496 + frac x := by unfold pm; rw [if_neg h, frac_eq]
theorem pex_sub {x : Nat} (h : rung x < 4503599627370496) : pex x = -1074 := by unfold pex; rw [if_pos h]
theorem pex_nor {x : Nat} (h : ¬ rung x < 4503599627370496) : pex x = -1074 + ((rung x / 4503599627370496 - 1 : Nat) : Int) := by unfold pex; rw [if_neg h]
theorem pm_pos {x : Nat} (h : rung x ≠ 0) : 0 < pm x := by unfold pm; split <;> omega
theorem pm_lt (x : Nat) : pm x < 9007199254740992 := by unfold pm; split <;> omega

theorem frac_and (x : Nat) : bits BinOp.and IntKind.u64 (rung x : Int) 4503599627370495 = (frac x : Int) := by
  have := rung_lt x
  rw [show (4503599627370495 : Int) = ((4503599627370495 : Nat) : Int) from rfl, u64_and_nat (rung x) _ (by omega) (by decide), frac_eq]
  congr 1
  exact Nat.and_two_pow_sub_one_eq_mod (rung x) 52
theorem frac_or (x : Nat) (h : ¬ rung x < 4503599627370496) : bits BinOp.or IntKind.u64 (frac x : Int) 4503599627370496 = (pm x : Int) := by
  have := rung_lt x
  have hf : frac x < 4503599627370496 := by rw [frac_eq]; omega
  rw [show (4503599627370496 : Int) = ((4503599627370496 : Nat) : Int) from rfl, u64_or_nat (frac x) _ (by omega) (by decide), pm_nor h, Nat.or_comm]
  congr 1
  exact nat_join 52 _ _ (by decide) hf
theorem frac_sub {x : Nat} (h : rung x < 4503599627370496) : (frac x : Int) = (pm x : Int) := by rw [frac_eq, pm_sub h, Nat.mod_eq_of_lt h]

@[irreducible] def topB (x : Nat) : Nat := if sgn x then 9223372036854775808 else 0
theorem top_and (x : Nat) (hx : x < 18446744073709551616) : bits BinOp.and IntKind.u64 (x : Int) 9223372036854775808 = (topB x : Int) := by
  rw [and_top x hx]; unfold topB; split <;> rfl
theorem top_ne (x : Nat) : ((topB x : Int) != 0) = sgn x := by
  unfold topB; cases sgn x <;> rfl

theorem partM_shift {x : Nat} (h0 : rung x ≠ 0) : (pm x : Int) / 2 ^ min (Lib.ctz 64 (pm x)) 64 = partM x := by
  have h := tz_spec (pm_pos h0) (by have := pm_lt x; omega)
  have e : min (Lib.ctz 64 (pm x)) 64 = tz (pm x) := by have := h.2.2; unfold tz at this ⊢; omega
  rw [e]; unfold partM od; rw [if_neg h0]; norm_cast
theorem partM_od {x : Nat} (h0 : rung x ≠ 0) : partM x = od (pm x) := by unfold partM; rw [if_neg h0]
theorem partE_eq {x : Nat} (h0 : rung x ≠ 0) : partE x = pex x + Lib.ctz 64 (pm x) := by unfold partE tz; rw [if_neg h0]
theorem ctz_le {x : Nat} (h0 : rung x ≠ 0) : Lib.ctz 64 (pm x) < 64 := (tz_spec (pm_pos h0) (by have := pm_lt x; omega)).2.2
theorem Parts_no (x : Nat) (hx : x < 18446744073709551616) (hf : finB x = false) (w : World) :
    Calls Tryz.prog 117 #[.float .f64 x] w fun e w' => e = .returned (.tuple #[.bool false, .int .u64 0, .int .i64 0, .bool false]) ∧ w = w' := by
  go_enter Tryz.func117, Tryz.ntmps117
  go_wp2_with (go_at_call 132; refine (Finite_c _ hx _).mono ?_; rintro e w' ⟨rfl, rfl⟩)
  exact bodyPost_ret (by simp [results, Tryz.results117, go_sem]) rfl ⟨rfl, rfl⟩
theorem Parts_yes (x : Nat) (hx : x < 18446744073709551616) (hf : finB x = true) (w : World) (ht : Tabs w) :
    Calls Tryz.prog 117 #[.float .f64 x] w fun e w' => e = .returned (.tuple #[.bool (sgn x), .int .u64 (partM x), .int .i64 (partE x), .bool true]) ∧ w = w' := by
  have h44 := ext_bits
  have hb := and_not_top x hx
  have ha := top_and x hx
  have hs := top_ne x
  have h1 := frac_and x
  have hr := (finB_true x).1 hf
  by_cases h0 : rung x = 0
  · have hz : ((rung x : Int) == 0) = true := by rw [h0]; rfl
    have em : partM x = 0 := by unfold partM; rw [if_pos h0]
    have ee : partE x = 0 := by unfold partE; rw [if_pos h0]
    go_enter Tryz.func117, Tryz.ntmps117
    go_wp2_with (go_at_call 132; refine (Finite_c _ hx _).mono ?_; rintro e w' ⟨rfl, rfl⟩)
    exact bodyPost_ret (v := .tuple #[.bool (sgn x), .int .u64 (partM x), .int .i64 (partE x), .bool true]) (by simp [results, Tryz.results117, go_sem, em, ee]) rfl ⟨rfl, rfl⟩
  · have hz : ((rung x : Int) == 0) = false := by rw [beq_eq_false_iff_ne]; omega
    have hq := pm_lt x
    by_cases hn : rung x < 4503599627370496
    · have hd : ((rung x : Int) / 4503599627370496 != 0) = false := by rw [bne_eq_false_iff_eq]; omega
      have h2 := frac_sub hn
      go_enter Tryz.func117, Tryz.ntmps117
      go_wp2_with (first | (go_at_call 132; refine (Finite_c _ hx _).mono ?_; rintro e w' ⟨rfl, rfl⟩) | (go_at_call 110; refine (Tryz.bits_TrailingZeros64 _ (by omega) _ (fun _ => ht.1)).mono ?_; rintro e w' ⟨rfl, rfl⟩))
      refine bodyPost_ret (v := .tuple #[.bool (sgn x), .int .u64 (partM x), .int .i64 (partE x), .bool true]) ?_ rfl ⟨rfl, rfl⟩
      simp [results, Tryz.results117, go_sem]
      refine ⟨partM_shift h0, ?_⟩
      rw [partE_eq h0, pex_sub hn, IntWalk.wrap64_in]
      have := ctz_le h0; omega
    · have hd : ((rung x : Int) / 4503599627370496 != 0) = true := by rw [bne_iff_ne]; omega
      have h2 := frac_or x hn
      go_enter Tryz.func117, Tryz.ntmps117
      go_wp2_with (first | (go_at_call 132; refine (Finite_c _ hx _).mono ?_; rintro e w' ⟨rfl, rfl⟩) | (go_at_call 110; refine (Tryz.bits_TrailingZeros64 _ (by omega) _ (fun _ => ht.1)).mono ?_; rintro e w' ⟨rfl, rfl⟩))
      refine bodyPost_ret (v := .tuple #[.bool (sgn x), .int .u64 (partM x), .int .i64 (partE x), .bool true]) ?_ rfl ⟨rfl, rfl⟩
      simp [results, Tryz.results117, go_sem]
      refine ⟨partM_shift h0, ?_⟩
      rw [partE_eq h0, pex_nor hn, IntWalk.wrap64_in]
      · omega
      · have := ctz_le h0; omega

theorem pm_rem (x : Nat) : (rung x : Int).tmod 4503599627370496 = (frac x : Int) := by
  rw [frac_eq]; exact Int.ofNat_tmod (rung x) 4503599627370496
theorem pm_mod (x : Nat) : (rung x : Int) % 4503599627370496 = (frac x : Int) := by rw [frac_eq]; omega
theorem pm_add {x : Nat} (h : ¬ rung x < 4503599627370496) : (frac x : Int) + 4503599627370496 = (pm x : Int) := by rw [pm_nor h]; omega
@[irreducible] def norB (x : Nat) : Bool := decide (4503599627370496 ≤ rung x)
theorem nor_geq (x : Nat) : decide ((4503599627370496 : Int) ≤ (rung x : Int)) = norB x := by
  unfold norB; rw [Bool.eq_iff_iff, decide_eq_true_iff, decide_eq_true_iff]; omega

end Go.Proofs.YtjalpocjgpgcfaaGreatDoor.Bt
set_option linter.unusedSimpArgs false
set_option linter.unusedVariables false
namespace Go.Proofs.YtjalpocjgpgcfaaGreatDoor
open Go Go.RowKit

theorem size_of_cell {w : World} {b o : Nat} {v : Value} (h : w.cell? ⟨b, o, none⟩ = some v) : b < w.heap.size := by
  unfold World.cell? at h
  cases hb : w.heap[b]? with
  | none => simp [hb] at h
  | some x => exact (Array.getElem?_eq_some_iff.1 hb).1
theorem gDe : Tryz.prog.globalNamed "math/bits.deBruijn64tab" = some 1 := by kernel_rfl
theorem gDeType : (Tryz.prog.globals[1]?).map (·.type) = some 180 := by kernel_rfl
theorem cDe : Tryz.prog.cellsOf 180 = 64 := by kernel_rfl
theorem cU8 : Tryz.prog.cellsOf 5 = 1 := by kernel_rfl
def glT : List (Nat × List AV) := [(1, Lib.deBruijn64tab.map fun (x : Nat) => AV.lit (.int .u8 (x : Nat)))]
theorem globs_of {W : World} {laid : List (String × DataW Unit)} (hl : laid.filter (fun x => x.1 == "math/bits.deBruijn64tab") = [("math/bits.deBruijn64tab", Rows.laid_math_bits_deBruijn64tab)]) (hL : laidMetH Tryz.prog laid W) : Globs glT W := by
  have h := hL.filter (fun x => x.1 == "math/bits.deBruijn64tab")
  rw [hl] at h
  have h1 : Lib.TabIs Tryz.prog W "math/bits.deBruijn64tab" .u8 (Lib.deBruijn64tab.map Int.ofNat) := Lib.tabIs_of_head (rest := []) gDe gDeType Tryz.underlying180 Tryz.underlying5 cU8 cDe h
  have hlen : Lib.deBruijn64tab.length = 64 := by decide
  have c1 : ∀ j, j < 64 → W.cell? ⟨1, j, none⟩ = some (.int .u8 ((Lib.deBruijn64tab.getD j 0 : Nat) : Int)) := fun j hj => by
    have := h1.cell gDe j (by rw [List.length_map, hlen]; exact hj)
    rw [this]; simp [List.getD]
    cases Lib.deBruijn64tab[j]? <;> rfl
  intro g B hB
  unfold glT at hB
  rw [look_cons] at hB
  split at hB
  · rename_i e
    injection hB with hB
    have e : 1 = g := e
    subst e hB
    refine ⟨size_of_cell (c1 0 (by decide)), fun i v hv => ?_⟩
    have hi : i < 64 := by
      have := (List.getElem?_eq_some_iff.1 hv).1
      rw [List.length_map, hlen] at this; exact this
    rw [List.getElem?_map] at hv
    cases hx : Lib.deBruijn64tab[i]? with
    | none => rw [hx] at hv; cases hv
    | some x =>
      rw [hx] at hv
      injection hv with hv
      refine ⟨_, hv.symm, ?_⟩
      rw [c1 i hi]
      simp [List.getD, hx]
  · cases hB
end Go.Proofs.YtjalpocjgpgcfaaGreatDoor
set_option linter.unusedSimpArgs false
set_option linter.unusedVariables false
namespace Go.Proofs.YtjalpocjgpgcfaaGreatDoor
open Go Go.RowKit

theorem Globs.below {gl : List (Nat × List AV)} {w w' : World} (h : Globs gl w) {n : Nat} (hb : Below n w w') (hn : w.heap.size ≤ n) : Globs gl w' := fun g B hB => by
  obtain ⟨h1, h2⟩ := h g B hB
  refine ⟨Nat.lt_of_lt_of_le h1 hb.size, fun i v hv => ?_⟩
  obtain ⟨u, e, c⟩ := h2 i v hv
  exact ⟨u, e, (hb.cell (p := ⟨g, i, none⟩) (by show g < n; omega)).trans c⟩
end Go.Proofs.YtjalpocjgpgcfaaGreatDoor
set_option linter.unusedSimpArgs false
set_option linter.unusedVariables false
namespace Go.Proofs.YtjalpocjgpgcfaaGreatDoor
open Go Go.RowKit Nt

theorem tabs_of {w : World} (h : Globs glT w) : Bt.Tabs w := by
  have hlk : look 1 glT = some (Lib.deBruijn64tab.map fun (x : Nat) => AV.lit (.int .u8 (x : Nat))) := by
    unfold glT; rw [look_cons, if_pos rfl]
  obtain ⟨h1, h2⟩ := h _ _ hlk
  refine ⟨fun j hj => ?_, h1⟩
  obtain ⟨u, e, c⟩ := h2 j (AV.lit (.int .u8 ((Lib.deBruijn64tab[j]'hj : Nat) : Int))) (by rw [List.getElem?_map, List.getElem?_eq_getElem hj]; rfl)
  injection e with e
  rw [c, ← e]
  simp [List.getD, List.getElem?_eq_getElem hj]
/-- The mantissa and the exponent of a float that is finite. -/
theorem pm_small (x : Nat) : Bt.pm x < 18446744073709551616 := Nat.lt_trans (Bt.pm_lt x) (by decide)
theorem tz_low {m : Nat} (h0 : 0 < m) (hm : m < 18446744073709551616) : lowN m = Bt.tz m ∧ odN m = Bt.od m := by
  obtain ⟨h1, h2, _⟩ := Bt.tz_spec h0 hm
  exact od_unique h2 h1.symm
theorem pex_bounds {x : Nat} (hx : x < 18446744073709551616) (hf : Bt.finB x = true) : -1074 ≤ Bt.pex x ∧ Bt.pex x ≤ 971 := by
  have hr := (Bt.finB_true x).1 hf
  by_cases h : Bt.Ff.rung x < 4503599627370496
  · rw [Bt.pex_sub h]; omega
  · rw [Bt.pex_nor h]; omega
theorem float_ok {x : Nat} (hx : x < 18446744073709551616) (hf : Bt.finB x = true) : mkOk3 (Bt.pm x) (Bt.pex x) := by
  by_cases h0 : Bt.pm x = 0
  · exact Or.inl h0
  · have h1 := (Bt.tz_spec (by omega) (pm_small x)).2.2
    have h2 := (tz_low (by omega) (pm_small x)).1
    have h3 := pex_bounds hx hf
    refine Or.inr ⟨?_, by omega, by omega⟩
    exact fits_le (abs_fits (pm_small x)) (odN_le _)
theorem rung_pm {x : Nat} (h : Bt.Ff.rung x = 0) : Bt.pm x = 0 := by rw [Bt.pm_sub (by omega), h]
/-- What is made of a float. -/
def FlPost (x : Nat) (w : World) (e : Ending) (w' : World) : Prop := e = .returned (.tuple #[(mkD (Bt.Ff.sgn x) (Bt.pm x) (Bt.pex x)).v, .int .i64 0]) ∧ Below w.heap.size w w'
theorem box_tabs {w : World} {b : Obj} (h : Bt.Tabs w) : Bt.Tabs (w.alloc b) := h.below ((Below.refl _ _).alloc (Nat.le_refl _) _)
set_option maxRecDepth 100000 in
theorem DFloat_no (x : Nat) (hx : x < 18446744073709551616) (hf : Bt.finB x = false) (w : World) :
    Calls Tryz.prog 86 #[.float .f64 x] w fun e w' => e = .returned (.tuple #[.agg #[.bool false, .string ⟨#[]⟩, .int .i64 0], .int .i64 5]) ∧ Below w.heap.size w w' := by
  have K := Lib.hid (fun w => Bt.Parts_no x hx hf w)
  go_enter Tryz.func86, Tryz.ntmps86
  go_wp2_with (go_at_call 117; refine (K.out _).mono ?_; rintro e w1 ⟨rfl, rfl⟩)
  refine bodyPost_ret (v := .tuple #[.agg #[.bool false, .string ⟨#[]⟩, .int .i64 0], .int .i64 5]) (by simp [results, Tryz.results86, go_sem]) rfl ⟨rfl, ?_⟩
  repeat (refine Below.setCell ?_ (by simp) _)
  exact (Below.refl _ _).alloc (Nat.le_refl _) _
set_option maxRecDepth 100000 in
theorem DFloat_c (x : Nat) (hx : x < 18446744073709551616) (hf : Bt.finB x = true) (w : World) (hT : Bt.Tabs w) :
    Calls Tryz.prog 86 #[.float .f64 x] w (FlPost x w) := by
  have K : Hid (∀ b, Calls Tryz.prog 117 #[.float .f64 x] (w.alloc b) fun e w' => e = .returned (.tuple #[.bool (Bt.Ff.sgn x), .int .u64 (Bt.partM x), .int .i64 (Bt.partE x), .bool true]) ∧ w.alloc b = w') := Lib.hid (fun b => Bt.Parts_yes x hx hf (w.alloc b) (box_tabs hT))
  by_cases h0 : Bt.Ff.rung x = 0
  · have hz : Bt.partM x = 0 := by unfold Bt.partM; rw [if_pos h0]
    have hd : mkD (Bt.Ff.sgn x) (Bt.pm x) (Bt.pex x) = Dy.zero := by rw [rung_pm h0, mkD_zero]
    rw [hz] at K
    unfold FlPost
    rw [hd, Dy.zero_v]
    clear hd hz h0 hf
    go_enter Tryz.func86, Tryz.ntmps86
    go_wp2_with (go_at_call 117; refine (K.out _).mono ?_; rintro e w1 ⟨rfl, rfl⟩)
    refine bodyPost_ret (v := .tuple #[.agg #[.bool false, .string ⟨#[]⟩, .int .i64 0], .int .i64 0]) (by simp [results, Tryz.results86, go_sem]) rfl ⟨rfl, ?_⟩
    repeat (refine Below.setCell ?_ (by simp) _)
    exact (Below.refl _ _).alloc (Nat.le_refl _) _
  · have hp := Bt.pm_pos h0
    have h2 := tz_low hp (pm_small x)
    have hd : mkD (Bt.Ff.sgn x) (Bt.pm x) (Bt.pex x) = ⟨Bt.Ff.sgn x, Bt.partM x, Bt.partE x⟩ := by
      rw [mkD_ok (by omega) (float_ok hx hf), h2.1, h2.2, Bt.partM_od h0, Bt.partE_eq h0]; rfl
    have hm : Bt.partM x < 18446744073709551616 := by rw [Bt.partM_od h0]; exact Nat.lt_of_le_of_lt Bt.od_le (pm_small x)
    have hz : ((Bt.partM x : Nat) : Int) ≠ 0 := by have := Bt.od_pos hp (pm_small x); rw [Bt.partM_od h0]; omega
    have hz2 : (((Bt.partM x : Nat) : Int) == 0) = false := by rw [beq_eq_false_iff_ne]; exact hz
    have KO := Lib.hid (fun w => Of_n (Bt.partM x) w hm)
    unfold FlPost
    rw [hd]
    clear hd h0 hf h2 hp hm
    generalize Bt.partM x = m at *
    generalize Bt.partE x = q at *
    generalize Bt.Ff.sgn x = g at *
    unfold Dy.v
    go_enter Tryz.func86, Tryz.ntmps86
    go_wp2_with (first
      | (go_at_call 117; refine (K.out _).mono ?_; rintro e w1 ⟨rfl, rfl⟩)
      | (go_at_call 53; refine (KO.out _).mono ?_; rintro e w1 ⟨rfl, hb⟩; obtain ⟨hcl, hfz⟩ := bcell hb; have hsz := box1 hb))
    refine bodyPost_ret (v := .tuple #[.agg #[.bool g, .string (natS m), .int .i64 q], .int .i64 0]) (by simp [results, Tryz.results86, go_sem, hcl, hsz]) rfl ⟨rfl, ?_⟩
    repeat (refine Below.setCell ?_ (by simp) _)
    exact box_below hb
end Go.Proofs.YtjalpocjgpgcfaaGreatDoor
set_option linter.unusedSimpArgs false
set_option linter.unusedVariables false
namespace Go.Proofs.YtjalpocjgpgcfaaGreatDoor
open Go Go.RowKit Nt

theorem ff_exp (x : Nat) (hx : x < 18446744073709551616) : bits BinOp.and IntKind.u64 ((x : Int) / 4503599627370496) 2047 = ((Bt.Ff.rung x / 4503599627370496 : Nat) : Int) := by
  have h := u64_and_nat (x / 4503599627370496) 2047 (by omega) (by decide)
  rw [show ((2047 : Nat) : Int) = 2047 from rfl, Int.natCast_ediv] at h
  rw [show ((4503599627370496 : Nat) : Int) = 4503599627370496 from rfl] at h
  rw [h]
  congr 1
  have h2 := Nat.and_two_pow_sub_one_eq_mod (x / 4503599627370496) 11
  rw [show (2 : Nat) ^ 11 - 1 = 2047 from rfl, show (2 : Nat) ^ 11 = 2048 from rfl] at h2
  rw [h2]
  unfold Bt.Ff.rung
  omega
theorem ff_man (x : Nat) (hx : x < 18446744073709551616) : bits BinOp.and IntKind.u64 (x : Int) 4503599627370495 = (Bt.frac x : Int) := by
  rw [show (4503599627370495 : Int) = ((4503599627370495 : Nat) : Int) from rfl, u64_and_nat x _ hx (by decide), Bt.frac_eq]
  congr 1
  have h2 := Nat.and_two_pow_sub_one_eq_mod x 52
  rw [show (2 : Nat) ^ 52 - 1 = 4503599627370495 from rfl, show (2 : Nat) ^ 52 = 4503599627370496 from rfl] at h2
  rw [h2]
  unfold Bt.Ff.rung
  omega
theorem ff_sgn (x : Nat) (hx : x < 18446744073709551616) : ((x : Int) / 9223372036854775808 == 1) = Bt.Ff.sgn x := by
  unfold Bt.Ff.sgn
  rw [Bool.eq_iff_iff, beq_iff_eq, beq_iff_eq]; omega
end Go.Proofs.YtjalpocjgpgcfaaGreatDoor
set_option linter.unusedSimpArgs false
set_option linter.unusedVariables false
namespace Go.Proofs.YtjalpocjgpgcfaaGreatDoor
open Go Go.RowKit Nt

theorem boxd {w w1 : World} {b : Obj} (hb : Below ((w.alloc b).drew).heap.size ((w.alloc b).drew) w1) : Below w.heap.size w w1 := (((Below.refl _ _).alloc (Nat.le_refl _) _).drew).trans (hb.mono (show w.heap.size ≤ (w.alloc b).heap.size by simp))
set_option maxRecDepth 100000 in
set_option maxHeartbeats 1000000 in
theorem rTop3_num (g : Bool) (n : Nat) (x : Int) (w : World) (hf : fits n) (ho : n ≠ 0) (h1 : -1048576 ≤ x) (h2 : x ≤ 1048576) :
    Calls Tryz.prog 67 #[.agg #[.bool g, .string (natS n), .int .i64 x]] w fun e w' => e = .returned (.tuple #[.int .i64 ((nd 2 n : Nat) - 1 + x), .bool true]) ∧ Below w.heap.size w w' := by
  have hE := natS_full ho
  have hE2 := natS_full2 ho
  have hb2 := bits_131072' hf
  have hL : nd 256 n ≤ 1000000000 := by unfold fits at hf; omega
  have HO := Lib.hid ho
  have hw1 : IntKind.i64.wrap ((nd 2 n : Int) - 1) = (nd 2 n : Int) - 1 := IntWalk.i64_in _ (by omega)
  have hw2 : IntKind.i64.wrap ((nd 2 n : Int) - 1 + x) = (nd 2 n : Int) - 1 + x := IntWalk.i64_in _ (by omega)
  have hw3 : wrap64 ((nd 2 n : Int) - 1) = (nd 2 n : Int) - 1 := IntWalk.wrap64_in _ (by omega)
  have hw4 : wrap64 ((nd 2 n : Int) - 1 + x) = (nd 2 n : Int) - 1 + x := IntWalk.wrap64_in _ (by omega)
  clear ho
  go_enter Tryz.func67, Tryz.ntmps67
  go_upto_region 3 with fail
  go_region_with (first
    | (go_at_call 68; refine (rOf3_c n _ hL).mono ?_; rintro e w1 ⟨v, rfl, hown, hb⟩; obtain ⟨hc, hfz⟩ := bcell hb; obtain ⟨A, c, rfl, hcl⟩ := hown.len; rw [dl_length] at hown ⊢)
    | (go_at_call 107; refine (rBits3_c n _ _ _ _ hL hown).mono ?_; rintro e w2 ⟨rfl, rfl⟩))
  all_goals
    go_wp2
    go_ret2
    first
      | exact ⟨rfl, boxd hb⟩
      | exact ⟨rfl, (boxd hb).drew⟩
      | exact ⟨rfl, box_below hb⟩
      | exact ⟨rfl, (box_below hb).drew⟩
end Go.Proofs.YtjalpocjgpgcfaaGreatDoor
set_option linter.unusedSimpArgs false
set_option linter.unusedVariables false
namespace Go.Proofs.YtjalpocjgpgcfaaGreatDoor
open Go Go.RowKit Nt

/-- A Dyad stands at block B. -/
def BoxAt (w : World) (B : Nat) (g : Bool) (s : ByteArray) (x : Int) : Prop := B < w.heap.size ∧ w.cell? ⟨B, 0, none⟩ = some (.bool g) ∧ w.cell? ⟨B, 1, none⟩ = some (.string s) ∧ w.cell? ⟨B, 2, none⟩ = some (.int .i64 x)
theorem BoxAt.step {w w' : World} {B : Nat} {g : Bool} {s : ByteArray} {x : Int} (h : BoxAt w B g s x) (hb : Below w.heap.size w w') : BoxAt w' B g s x := by
  obtain ⟨h0, h1, h2, h3⟩ := h
  exact ⟨Nat.lt_of_lt_of_le h0 hb.size, (hb.cell (p := ⟨B, 0, none⟩) h0).trans h1, (hb.cell (p := ⟨B, 1, none⟩) h0).trans h2, (hb.cell (p := ⟨B, 2, none⟩) h0).trans h3⟩
theorem BoxAt.new (w : World) (g : Bool) (s : ByteArray) (x : Int) (T : TypeId) : BoxAt (w.alloc (.cells #[.bool g, .string s, .int .i64 x] T)) w.heap.size g s x :=
  ⟨by simp, (World.cell?_alloc_at _ _ _ _ rfl).trans rfl, (World.cell?_alloc_at _ _ _ _ rfl).trans rfl, (World.cell?_alloc_at _ _ _ _ rfl).trans rfl⟩
/-- From w on, with one Dyad in its box. -/
def On1 (w : World) (g : Bool) (s : ByteArray) (x : Int) (wc : World) : Prop := Below w.heap.size w wc ∧ BoxAt wc w.heap.size g s x
theorem On1.step {w : World} {g : Bool} {s : ByteArray} {x : Int} {wc w' : World} (h : On1 w g s x wc) (hb : Below wc.heap.size wc w') : On1 w g s x w' := ⟨below_chain h.1 hb, h.2.step hb⟩
theorem On1.new (w : World) (g : Bool) (s : ByteArray) (x : Int) (T : TypeId) : On1 w g s x (w.alloc (.cells #[.bool g, .string s, .int .i64 x] T)) := ⟨(Below.refl _ _).alloc (Nat.le_refl _) _, BoxAt.new w g s x T⟩
/-- And a second box, with the Dyad's magnitude. -/
def On2 (w : World) (g : Bool) (s : ByteArray) (x : Int) (B : Nat) (wc : World) : Prop := On1 w g s x wc ∧ BoxAt wc B false s x
theorem On2.step {w : World} {g : Bool} {s : ByteArray} {x : Int} {B : Nat} {wc w' : World} (h : On2 w g s x B wc) (hb : Below wc.heap.size wc w') : On2 w g s x B w' := ⟨h.1.step hb, h.2.step hb⟩
theorem On2.start {w : World} {g : Bool} {s : ByteArray} {x : Int} {w1 : World} {T : TypeId} (h : On1 w g s x w1) : On2 w g s x w1.heap.size ((w1.alloc (.cells #[.bool false, .string s, .int .i64 x] T)).drew) := by
  have e : Below w1.heap.size w1 (w1.alloc (.cells #[.bool false, .string s, .int .i64 x] T)) := (Below.refl _ _).alloc (Nat.le_refl _) _
  exact ⟨h.step e.drew, (BoxAt.new w1 false s x T).step (Below.refl _ _).drew⟩
end Go.Proofs.YtjalpocjgpgcfaaGreatDoor
set_option linter.unusedSimpArgs false
set_option linter.unusedVariables false
namespace Go.Proofs.YtjalpocjgpgcfaaGreatDoor
open Go Go.RowKit Nt

/-- What both make: the same Dyad, the same error. -/
def Two (f g : FuncId) (args : Array Value) : Prop := ∃ (d : Dy) (e : Int), (∀ w, Globs glT w → Calls Tryz.prog f args w fun r w' => r = .returned (.tuple #[d.v, .int .i64 e]) ∧ Below w.heap.size w w') ∧ (∀ w, Calls Tryz.prog g args w fun r w' => r = .returned (.tuple #[d.v, .int .i64 e]) ∧ Below w.heap.size w w')
theorem two_of_ (z x : Int) (hz : -9223372036854775808 ≤ z ∧ z ≤ 9223372036854775807) (hx : -9223372036854775808 ≤ x ∧ x ≤ 9223372036854775807) : Two 27 37 #[.int .i64 z, .int .i64 x] :=
  ⟨mkD (decide (z < 0)) z.natAbs x, mkE z.natAbs x, fun w _ => DOf_c z x w hz hx, fun w => rOfD3_c z x w hz hx⟩
theorem two_make (g : Bool) (s : ByteArray) (x : Int) (hs : s.size ≤ 9223372036854775807) (hx : -9223372036854775808 ≤ x ∧ x ≤ 9223372036854775807) : Two 52 64 #[.bool g, .string s, .int .i64 x] := by
  by_cases h : May s
  · obtain ⟨n, hf, rfl⟩ := may_num h
    exact ⟨mkD g n x, mkE n x, fun w _ => DMake_c g n x w hf hx, fun w => rMake3_c g n x w hf hx⟩
  · refine ⟨Dy.zero, 2, fun w _ => ?_, fun w => ?_⟩
    · rw [Dy.zero_v]; exact DMake_bad g s x w h
    · rw [Dy.zero_v]; exact rMake3_bad g s x w hs h
/-- A Dyad in a block. -/
def Box3 (w : World) (B : Nat) (a b c : Value) : Prop := Blk w B 24 #[a, b, c]
theorem Box3.facts {w : World} {B : Nat} {a b c : Value} (h : Box3 w B a b c) : B < w.heap.size ∧ w.cell? ⟨B, 0, none⟩ = some a ∧ w.cell? ⟨B, 1, none⟩ = some b ∧ w.cell? ⟨B, 2, none⟩ = some c ∧ w.frozen? ⟨B, 0, none⟩ = false ∧ w.frozen? ⟨B, 1, none⟩ = false ∧ w.frozen? ⟨B, 2, none⟩ = false :=
  ⟨Blk.lt h, (Blk.cell h 0).trans rfl, (Blk.cell h 1).trans rfl, (Blk.cell h 2).trans rfl, Blk.frozen h 0, Blk.frozen h 1, Blk.frozen h 2⟩
theorem Box3.step {w w' : World} {B : Nat} {a b c : Value} (h : Box3 w B a b c) (hb : Below w.heap.size w w') : Box3 w' B a b c := Blk.below h hb (Blk.lt h)
theorem Box3.new (w : World) (a b c : Value) : Box3 (w.alloc (.cells #[a, b, c] 24)) w.heap.size a b c := Blk.new w _ _
theorem Box3.more {w : World} {B : Nat} {a b c : Value} (h : Box3 w B a b c) (o : Obj) : Box3 (w.alloc o) B a b c := Blk.alloc h o
theorem Box3.put {w : World} {B : Nat} {a b c : Value} (h : Box3 w B a b c) (a' b' c' : Value) : Box3 (((w.setCell ⟨B, 0, none⟩ a').setCell ⟨B, 1, none⟩ b').setCell ⟨B, 2, none⟩ c') B a' b' c' := by
  have := ((Blk.set_ h 0 a').set_ 1 b').set_ 2 c'
  unfold Box3
  simpa using this
theorem Box3.far {w : World} {B C : Nat} {a b c : Value} (h : Box3 w B a b c) (hne : B ≠ C) (a' b' c' : Value) : Box3 (((w.setCell ⟨C, 0, none⟩ a').setCell ⟨C, 1, none⟩ b').setCell ⟨C, 2, none⟩ c') B a b c :=
  Blk.far (Blk.far (Blk.far h (p := ⟨C, 0, none⟩) hne a') (p := ⟨C, 1, none⟩) hne b') (p := ⟨C, 2, none⟩) hne c'
theorem below_put {n : Nat} {w W : World} {A : Nat} (hb : Below n w W) (hA : n ≤ A) (a' b' c' : Value) : Below n w (((W.setCell ⟨A, 0, none⟩ a').setCell ⟨A, 1, none⟩ b').setCell ⟨A, 2, none⟩ c') :=
  ((hb.setCell (p := ⟨A, 0, none⟩) hA a').setCell (p := ⟨A, 1, none⟩) hA b').setCell (p := ⟨A, 2, none⟩) hA c'
theorem below_then {a b c : World} (h1 : Below a.heap.size a b) (h2 : Below b.heap.size b c) : Below a.heap.size a c := h1.trans (h2.mono h1.size)
end Go.Proofs.YtjalpocjgpgcfaaGreatDoor
set_option linter.unusedSimpArgs false
set_option linter.unusedVariables false
namespace Go.Proofs.YtjalpocjgpgcfaaGreatDoor
open Go Go.RowKit Nt

/-- From w on, with two Dyads in boxes. -/
def TB (w : World) (a b : Dt) (W : World) : Prop := Below w.heap.size w W ∧ Box3 W w.heap.size (.bool a.g) (.string a.s) (.int .i64 a.x) ∧ Box3 W (w.heap.size + 1) (.bool b.g) (.string b.s) (.int .i64 b.x)
theorem TB.start (w : World) (a b : Dt) : TB w a b ((w.alloc (.cells #[.bool a.g, .string a.s, .int .i64 a.x] 24)).alloc (.cells #[.bool b.g, .string b.s, .int .i64 b.x] 24)) := by
  have e : (w.alloc (.cells #[.bool a.g, .string a.s, .int .i64 a.x] 24)).heap.size = w.heap.size + 1 := by simp
  refine ⟨((Below.refl _ _).alloc (Nat.le_refl _) _).alloc (by simp) _, (Box3.new w _ _ _).more _, ?_⟩
  rw [← e]
  exact Box3.new _ _ _ _
theorem TB.step {w : World} {a b : Dt} {W W' : World} (h : TB w a b W) (hb : Below W.heap.size W W') : TB w a b W' := ⟨below_then h.1 hb, h.2.1.step hb, h.2.2.step hb⟩
theorem TB.more {w : World} {a b : Dt} {W : World} (h : TB w a b W) (o : Obj) : TB w a b (W.alloc o) := h.step ((Below.refl _ _).alloc (Nat.le_refl _) _)
theorem TB.drawn {w : World} {a b : Dt} {W : World} (h : TB w a b W) (n : Nat) : TB w a b (W.drewN n) := h.step (below_drewN (Below.refl _ _) n)
theorem TB.drew {w : World} {a b : Dt} {W : World} (h : TB w a b W) : TB w a b W.drew := h.step (Below.refl _ _).drew
/-- Where the highest one stands. -/
@[irreducible] def topD (d : Dy) : Int := (nd 2 d.n : Nat) - 1 + d.x
theorem topD_eq (d : Dy) : topD d = (nd 2 d.n : Nat) - 1 + d.x := by unfold topD; rfl
@[irreducible] def upN (a b : Dy) : Nat := a.n * 2 ^ (a.x - b.x).toNat
theorem upN_eq (a b : Dy) : upN a b = a.n * 2 ^ (a.x - b.x).toNat := by unfold upN; rfl
@[irreducible] def magC (a b : Dy) : Int := if topD a < topD b then -1 else if topD b < topD a then 1 else cmpN (upN a b) (upN b a)
theorem magC_lt {a b : Dy} (h : topD a < topD b) : magC a b = -1 := by unfold magC; rw [if_pos h]
theorem magC_gt {a b : Dy} (h : topD b < topD a) : magC a b = 1 := by unfold magC; rw [if_neg (by omega), if_pos h]
theorem magC_eq {a b : Dy} (h : topD a = topD b) : magC a b = cmpN (upN a b) (upN b a) := by unfold magC; rw [if_neg (by omega), if_neg (by omega)]
def Dy.t (d : Dy) : Dt := ⟨d.g, natS d.n, d.x⟩
theorem Dy.t_ok {d : Dy} (h : d.Num) : d.t.Ok := Or.inr ⟨d.n, h.1, h.2.1, rfl, h.2.2.1, h.2.2.2⟩
theorem up_fits {a b : Dy} (ha : a.Num) (hb : b.Num) (h : topD a = topD b) (hx : b.x < a.x) : fits (a.n * 2 ^ (a.x - b.x).toNat) ∧ upN a b = a.n * 2 ^ (a.x - b.x).toNat ∧ upN b a = b.n := by
  refine ⟨(fits_shift (odd_ne ha.2.1)).2 ?_, upN_eq a b, ?_⟩
  · have h1 := bits_131072' hb.1
    rw [topD_eq, topD_eq] at h
    omega
  · rw [upN_eq, show (b.x - a.x).toNat = 0 by omega, Nat.pow_zero, Nat.mul_one]
set_option maxRecDepth 100000 in
set_option maxHeartbeats 2000000 in
theorem Dmag_c (a b : Dy) (w : World) (ha : a.Num) (hb : b.Num) :
    Calls Tryz.prog 82 #[.agg #[.bool a.g, .string (natS a.n), .int .i64 a.x], .agg #[.bool b.g, .string (natS b.n), .int .i64 b.x]] w fun e w' => e = .returned (.int .i64 (magC a b)) ∧ Below w.heap.size w w' := by
  have KA := Lib.hid (fun w => DTop_num a.g a.n a.x w ha.1 ha.2.1 ha.2.2.1 ha.2.2.2)
  have KB := Lib.hid (fun w => DTop_num b.g b.n b.x w hb.1 hb.2.1 hb.2.2.1 hb.2.2.2)
  rw [← topD_eq] at KA KB
  have HA := Lib.hid ha
  have HB := Lib.hid hb
  have hxa := ha.2.2
  have hxb := hb.2.2
  have T0 := TB.start w a.t b.t
  unfold Dy.t at T0
  have hcase : topD a < topD b ∨ topD b < topD a ∨ (topD a = topD b ∧ b.x < a.x) ∨ (topD a = topD b ∧ a.x < b.x) ∨ (topD a = topD b ∧ a.x = b.x) := by omega
  clear ha hb
  rcases hcase with h | h | ⟨h, hx⟩ | ⟨h, hx⟩ | ⟨h, hx⟩
  · have HE := Lib.hid (magC_lt h)
    generalize topD a = ta at *
    generalize topD b = tb at *
    go_enter Tryz.func82, Tryz.ntmps82
    go_wp2_with fail
    refine (KA.out _).mono ?_
    rintro e w1 ⟨rfl, hb⟩
    replace T0 := T0.step hb
    obtain ⟨p0, p1, p2, p3, p4, p5, p6⟩ := T0.2.1.facts
    obtain ⟨q0, q1, q2, q3, q4, q5, q6⟩ := T0.2.2.facts
    clear hb
    go_wp2_with fail
    refine (KB.out _).mono ?_
    rintro e w2 ⟨rfl, hb⟩
    replace T0 := T0.step hb
    clear hb p0 p1 p2 p3 p4 p5 p6 q0 q1 q2 q3 q4 q5 q6
    go_wp2_with fail
    go_ret
    exact ⟨by rw [HE.out]; rfl, T0.1⟩
  · have HE := Lib.hid (magC_gt h)
    generalize topD a = ta at *
    generalize topD b = tb at *
    go_enter Tryz.func82, Tryz.ntmps82
    go_wp2_with fail
    refine (KA.out _).mono ?_
    rintro e w1 ⟨rfl, hb⟩
    replace T0 := T0.step hb
    obtain ⟨p0, p1, p2, p3, p4, p5, p6⟩ := T0.2.1.facts
    obtain ⟨q0, q1, q2, q3, q4, q5, q6⟩ := T0.2.2.facts
    clear hb
    go_wp2_with fail
    refine (KB.out _).mono ?_
    rintro e w2 ⟨rfl, hb⟩
    replace T0 := T0.step hb
    clear hb p0 p1 p2 p3 p4 p5 p6 q0 q1 q2 q3 q4 q5 q6
    go_wp2_with fail
    go_ret
    exact ⟨by rw [HE.out]; rfl, T0.1⟩
  · obtain ⟨hf, hu, hv⟩ := up_fits HA.out HB.out h hx
    obtain ⟨j, hj⟩ : ∃ j, j = (a.x - b.x).toNat := ⟨_, rfl⟩
    rw [← hj] at hf hu
    have KS := Lib.hid (fun w => NShift_up a.n j w HA.out.1 (odd_ne HA.out.2.1) (by omega) hf)
    have KC : Hid (∀ w, Calls Tryz.prog 112 #[.string (natS (a.n * 2 ^ j)), .string (natS b.n)] w (IntPost (magC a b) 0 w)) := Lib.hid fun w => by
      rw [magC_eq h]
      rw [hu, hv]
      exact NCmp_c _ _ w hf HB.out.1
    have hjx : a.x - b.x = (j : Int) := by omega
    have hj0 : (0 : Int) < (j : Int) := by omega
    obtain ⟨z, hz⟩ : ∃ z, z = a.n * 2 ^ j := ⟨_, rfl⟩
    rw [← hz] at KS KC
    clear hf hu hv hj hx hz
    rw [h] at KA
    clear h
    generalize topD b = tb at *
    go_enter Tryz.func82, Tryz.ntmps82
    go_wp2_with fail
    refine (KA.out _).mono ?_
    rintro e w1 ⟨rfl, hb⟩
    replace T0 := T0.step hb
    obtain ⟨p0, p1, p2, p3, p4, p5, p6⟩ := T0.2.1.facts
    obtain ⟨q0, q1, q2, q3, q4, q5, q6⟩ := T0.2.2.facts
    clear hb
    go_wp2_with fail
    refine (KB.out _).mono ?_
    rintro e w2 ⟨rfl, hb⟩
    replace T0 := T0.step hb
    clear hb p0 p1 p2 p3 p4 p5 p6 q0 q1 q2 q3 q4 q5 q6
    obtain ⟨p0, p1, p2, p3, p4, p5, p6⟩ := T0.2.1.facts
    obtain ⟨q0, q1, q2, q3, q4, q5, q6⟩ := T0.2.2.facts
    go_wp2_with fail
    go_quiet (fail)
    rename_i nq
    replace T0 := T0.drawn nq
    generalize w2.drewN nq = w3 at *
    clear p0 p1 p2 p3 p4 p5 p6 q0 q1 q2 q3 q4 q5 q6
    obtain ⟨p0, p1, p2, p3, p4, p5, p6⟩ := T0.2.1.facts
    obtain ⟨q0, q1, q2, q3, q4, q5, q6⟩ := T0.2.2.facts
    go_wp2_with (first
      | (go_at_call 84; refine (KS.out _).mono ?_; rintro e w4 ⟨rfl, hb⟩; replace T0 := T0.step hb; clear hb)
      | (go_at_call 112; refine (KC.out _).mono ?_; rintro e w5 ⟨rfl, hb⟩; replace T0 := T0.step hb; clear hb))
    go_ret
    exact ⟨rfl, T0.1⟩
  · obtain ⟨hf, hu, hv⟩ := up_fits HB.out HA.out h.symm hx
    obtain ⟨j, hj⟩ : ∃ j, j = (b.x - a.x).toNat := ⟨_, rfl⟩
    rw [← hj] at hf hu
    have KS := Lib.hid (fun w => NShift_up b.n j w HB.out.1 (odd_ne HB.out.2.1) (by omega) hf)
    have KC : Hid (∀ w, Calls Tryz.prog 112 #[.string (natS a.n), .string (natS (b.n * 2 ^ j))] w (IntPost (magC a b) 0 w)) := Lib.hid fun w => by
      rw [magC_eq h]
      rw [hv, hu]
      exact NCmp_c _ _ w HA.out.1 hf
    have hjx : b.x - a.x = (j : Int) := by omega
    have hj0 : (0 : Int) < (j : Int) := by omega
    obtain ⟨z, hz⟩ : ∃ z, z = b.n * 2 ^ j := ⟨_, rfl⟩
    rw [← hz] at KS KC
    have hjn : a.x - b.x = -(j : Int) := by omega
    have hjm : ¬ (0 : Int) < -(j : Int) := by omega
    clear hf hu hv hj hx hz hjx
    rw [h] at KA
    clear h
    generalize topD b = tb at *
    go_enter Tryz.func82, Tryz.ntmps82
    go_wp2_with fail
    refine (KA.out _).mono ?_
    rintro e w1 ⟨rfl, hb⟩
    replace T0 := T0.step hb
    obtain ⟨p0, p1, p2, p3, p4, p5, p6⟩ := T0.2.1.facts
    obtain ⟨q0, q1, q2, q3, q4, q5, q6⟩ := T0.2.2.facts
    clear hb
    go_wp2_with fail
    refine (KB.out _).mono ?_
    rintro e w2 ⟨rfl, hb⟩
    replace T0 := T0.step hb
    clear hb p0 p1 p2 p3 p4 p5 p6 q0 q1 q2 q3 q4 q5 q6
    obtain ⟨p0, p1, p2, p3, p4, p5, p6⟩ := T0.2.1.facts
    obtain ⟨q0, q1, q2, q3, q4, q5, q6⟩ := T0.2.2.facts
    go_wp2_with fail
    go_quiet (fail)
    rename_i nq
    replace T0 := T0.drawn nq
    generalize w2.drewN nq = w3 at *
    clear p0 p1 p2 p3 p4 p5 p6 q0 q1 q2 q3 q4 q5 q6
    obtain ⟨p0, p1, p2, p3, p4, p5, p6⟩ := T0.2.1.facts
    obtain ⟨q0, q1, q2, q3, q4, q5, q6⟩ := T0.2.2.facts
    go_wp2_with (first
      | (go_at_call 84; refine (KS.out _).mono ?_; rintro e w4 ⟨rfl, hb⟩; replace T0 := T0.step hb; clear hb)
      | (go_at_call 112; refine (KC.out _).mono ?_; rintro e w5 ⟨rfl, hb⟩; replace T0 := T0.step hb; clear hb))
    go_ret
    exact ⟨rfl, T0.1⟩
  · have KS := Lib.hid (fun w => NShift_stay b.n w HB.out.1 (odd_ne HB.out.2.1))
    have KC : Hid (∀ w, Calls Tryz.prog 112 #[.string (natS a.n), .string (natS b.n)] w (IntPost (magC a b) 0 w)) := Lib.hid fun w => by
      rw [magC_eq h, upN_eq, upN_eq, show (a.x - b.x).toNat = 0 by omega, show (b.x - a.x).toNat = 0 by omega, Nat.pow_zero, Nat.mul_one, Nat.mul_one]
      exact NCmp_c _ _ w HA.out.1 HB.out.1
    have hjn : a.x - b.x = 0 := by omega
    rw [h] at KA
    clear h hx
    generalize topD b = tb at *
    go_enter Tryz.func82, Tryz.ntmps82
    go_wp2_with fail
    refine (KA.out _).mono ?_
    rintro e w1 ⟨rfl, hb⟩
    replace T0 := T0.step hb
    obtain ⟨p0, p1, p2, p3, p4, p5, p6⟩ := T0.2.1.facts
    obtain ⟨q0, q1, q2, q3, q4, q5, q6⟩ := T0.2.2.facts
    clear hb
    go_wp2_with fail
    refine (KB.out _).mono ?_
    rintro e w2 ⟨rfl, hb⟩
    replace T0 := T0.step hb
    clear hb p0 p1 p2 p3 p4 p5 p6 q0 q1 q2 q3 q4 q5 q6
    obtain ⟨p0, p1, p2, p3, p4, p5, p6⟩ := T0.2.1.facts
    obtain ⟨q0, q1, q2, q3, q4, q5, q6⟩ := T0.2.2.facts
    go_wp2_with fail
    go_quiet (fail)
    rename_i nq
    replace T0 := T0.drawn nq
    generalize w2.drewN nq = w3 at *
    clear p0 p1 p2 p3 p4 p5 p6 q0 q1 q2 q3 q4 q5 q6
    obtain ⟨p0, p1, p2, p3, p4, p5, p6⟩ := T0.2.1.facts
    obtain ⟨q0, q1, q2, q3, q4, q5, q6⟩ := T0.2.2.facts
    go_wp2_with (first
      | (go_at_call 84; refine (KS.out _).mono ?_; rintro e w4 ⟨rfl, hb⟩; replace T0 := T0.step hb; clear hb)
      | (go_at_call 112; refine (KC.out _).mono ?_; rintro e w5 ⟨rfl, hb⟩; replace T0 := T0.step hb; clear hb))
    go_ret
    exact ⟨rfl, T0.1⟩
end Go.Proofs.YtjalpocjgpgcfaaGreatDoor
set_option linter.unusedSimpArgs false
set_option linter.unusedVariables false
namespace Go.Proofs.YtjalpocjgpgcfaaGreatDoor
open Go Go.RowKit Nt

@[irreducible] def sgD (d : Dy) : Int := if d.n = 0 then 0 else sgnI d.g
theorem sgD_zero : sgD Dy.zero = 0 := by unfold sgD Dy.zero; rfl
theorem sgD_num {d : Dy} (h : d.n ≠ 0) : sgD d = sgnI d.g := by unfold sgD; rw [if_neg h]
theorem sgD_ne {d : Dy} (h : d.n ≠ 0) : sgD d ≠ 0 := by rw [sgD_num h]; exact sgn_ne2 d.g
theorem Dy.num_of {d : Dy} (h : d.Ok) (hs : sgD d ≠ 0) : d.Num := by
  rcases h with rfl | h
  · exact absurd sgD_zero hs
  · exact h
theorem Dy.zero_of {d : Dy} (h : d.Ok) (hs : sgD d = 0) : d = Dy.zero := by
  rcases h with rfl | h
  · rfl
  · exact absurd hs (sgD_ne (odd_ne h.2.1))
theorem sgD_b (d : Dy) : sgD d = -1 ∨ sgD d = 0 ∨ sgD d = 1 := by
  unfold sgD
  by_cases h : d.n = 0
  · rw [if_pos h]; exact Or.inr (Or.inl rfl)
  · rw [if_neg h]
    cases d.g
    · exact Or.inr (Or.inr sgn_f)
    · exact Or.inl sgn_t
theorem Dy.ok_t {d : Dy} (h : d.Ok) : d.t.Ok := by
  rcases h with rfl | h
  · exact Or.inl ⟨natS_zero, rfl, rfl⟩
  · exact Dy.t_ok h
theorem Dy.small {d : Dy} (h : d.Ok) : (natS d.n).size ≤ 16384 := Dt.small (Dy.ok_t h)
theorem DSign_c (d : Dy) (h : d.Ok) (w : World) : Calls Tryz.prog 81 #[.agg #[.bool d.g, .string (natS d.n), .int .i64 d.x]] w fun e w' => e = .returned (.int .i64 (sgD d)) ∧ Below w.heap.size w w' := by
  rcases h with rfl | h
  · rw [sgD_zero]
    show Calls _ _ #[.agg #[.bool false, .string (natS 0), .int .i64 0]] _ _
    rw [natS_zero]; exact DSign_zero w
  · rw [sgD_num (odd_ne h.2.1)]
    exact DSign_num d.g d.n d.x w h.1 h.2.1 h.2.2.1 h.2.2.2
@[irreducible] def cmpD (a b : Dy) : Int := if sgD a < sgD b then -1 else if sgD b < sgD a then 1 else if sgD a = 0 then 0 else sgD a * magC a b
theorem cmpD_lt {a b : Dy} (h : sgD a < sgD b) : cmpD a b = -1 := by unfold cmpD; rw [if_pos h]
theorem cmpD_gt {a b : Dy} (h : sgD b < sgD a) : cmpD a b = 1 := by unfold cmpD; rw [if_neg (by omega), if_pos h]
theorem cmpD_zero {a b : Dy} (h : sgD a = sgD b) (h0 : sgD a = 0) : cmpD a b = 0 := by unfold cmpD; rw [if_neg (by omega), if_neg (by omega), if_pos h0]
theorem cmpD_eq {a b : Dy} (h : sgD a = sgD b) (h0 : sgD a ≠ 0) : cmpD a b = sgD a * magC a b := by unfold cmpD; rw [if_neg (by omega), if_neg (by omega), if_neg h0]
theorem cmpD_self (a : Dy) : cmpD a a = 0 := by
  by_cases h : sgD a = 0
  · exact cmpD_zero rfl h
  · rw [cmpD_eq rfl h, magC_eq rfl, cmpN_eq, Int.mul_zero]
theorem magC_b (a b : Dy) : magC a b = -1 ∨ magC a b = 0 ∨ magC a b = 1 := by
  unfold magC cmpN
  split
  · exact Or.inl rfl
  · split
    · exact Or.inr (Or.inr rfl)
    · split
      · exact Or.inl rfl
      · split
        · exact Or.inr (Or.inl rfl)
        · exact Or.inr (Or.inr rfl)
theorem dts2 (W : World) (a b : Dt) (T : TypeId) : Dts (W.alloc (.cells #[.bool a.g, .string a.s, .int .i64 a.x, .bool b.g, .string b.s, .int .i64 b.x] T)) (some ⟨W.heap.size, 0, none⟩) [a, b] := fun _ => by
  refine ⟨_, rfl, by simp, fun j hj => ?_⟩
  have hc : ∀ o, (W.alloc (.cells #[.bool a.g, .string a.s, .int .i64 a.x, .bool b.g, .string b.s, .int .i64 b.x] T)).cell? ⟨W.heap.size, o, none⟩ = #[.bool a.g, .string a.s, .int .i64 a.x, .bool b.g, .string b.s, .int .i64 b.x][o]? := fun o => (Blk.new W T _).cell o
  have hj2 : j = 0 ∨ j = 1 := by simp at hj; omega
  rcases hj2 with rfl | rfl
  · refine ⟨?_, ?_, ?_⟩
    · rw [Nat.zero_mul, add_plain0, hc]; rfl
    · rw [Nat.zero_mul, add_plain0, hc]; rfl
    · rw [Nat.zero_mul, add_plain0, hc]; rfl
  · refine ⟨?_, ?_, ?_⟩
    · rw [Nat.one_mul, add_plain0, hc]; rfl
    · rw [Nat.one_mul, add_plain0, hc]; rfl
    · rw [Nat.one_mul, add_plain0, hc]; rfl
theorem Dall2 (a b : Dt) (W : World) (T : TypeId) (A : Nat) (hA : A = W.heap.size) (ha : a.s.size ≤ 9223372036854775807) (hb : b.s.size ≤ 9223372036854775807) :
    Calls Tryz.prog 39 #[.slice (some ⟨A, 0, none⟩) 2 2] (W.alloc (.cells #[.bool a.g, .string a.s, .int .i64 a.x, .bool b.g, .string b.s, .int .i64 b.x] T)) fun e w' => e = .returned (.int .i64 (dE [a, b])) ∧ Below (W.alloc (.cells #[.bool a.g, .string a.s, .int .i64 a.x, .bool b.g, .string b.s, .int .i64 b.x] T)).heap.size (W.alloc (.cells #[.bool a.g, .string a.s, .int .i64 a.x, .bool b.g, .string b.s, .int .i64 b.x] T)) w' := by
  subst hA
  exact Dall_c _ 2 [a, b] _ (by simp) (fun t ht => by
    rcases List.mem_cons.1 ht with rfl | ht
    · exact ha
    · rw [List.mem_singleton.1 ht]; exact hb) (dts2 W a b T)
set_option maxRecDepth 100000 in
set_option maxHeartbeats 2000000 in
theorem DCmp_bad (a b : Dt) (w : World) (ha : a.s.size ≤ 9223372036854775807) (hb : b.s.size ≤ 9223372036854775807) (hn : ¬ (a.Ok ∧ b.Ok)) :
    Calls Tryz.prog 51 #[.agg #[.bool a.g, .string a.s, .int .i64 a.x], .agg #[.bool b.g, .string b.s, .int .i64 b.x]] w fun e w' => e = .returned (.tuple #[.int .i64 0, .int .i64 2]) ∧ Below w.heap.size w w' := by
  have he : dE [a, b] = 2 := by
    by_cases h : a.Ok
    · exact dE_no (t := b) (by simp) (fun c => hn ⟨h, c⟩)
    · exact dE_no (t := a) (by simp) h
  have KA := Lib.hid (fun W T A hA => Dall2 a b W T A hA ha hb)
  rw [he] at KA
  have T0 := TB.start w a b
  clear ha hb hn he
  go_enter Tryz.func51, Tryz.ntmps51
  go_wp2_with fail
  refine (KA.out _ _ _ (by simp)).mono ?_
  rintro e w1 ⟨rfl, hb⟩
  replace T0 := (T0.more _).step hb
  clear hb
  go_wp2_with fail
  go_ret2
  exact ⟨rfl, T0.1⟩
set_option maxRecDepth 100000 in
set_option maxHeartbeats 2000000 in
theorem DCmp_same (a : Dy) (w : World) (ha : a.Ok) :
    Calls Tryz.prog 51 #[.agg #[.bool a.g, .string (natS a.n), .int .i64 a.x], .agg #[.bool a.g, .string (natS a.n), .int .i64 a.x]] w fun e w' => e = .returned (.tuple #[.int .i64 (cmpD a a), .int .i64 0]) ∧ Below w.heap.size w w' := by
  have he : dE [a.t, a.t] = 0 := dE_ok fun t ht => by
    rcases List.mem_cons.1 ht with rfl | ht
    · exact Dy.ok_t ha
    · rw [List.mem_singleton.1 ht]; exact Dy.ok_t ha
  have KA := Lib.hid (fun W T A hA => Dall2 a.t a.t W T A hA (by have := Dy.small ha; show (natS a.n).size ≤ _; omega) (by have := Dy.small ha; show (natS a.n).size ≤ _; omega))
  rw [he] at KA
  have T0 := TB.start w a.t a.t
  unfold Dy.t at T0 KA
  have HC := Lib.hid (cmpD_self a)
  clear he
  go_enter Tryz.func51, Tryz.ntmps51
  go_wp2_with fail
  refine (KA.out _ _ _ (by simp)).mono ?_
  rintro e w1 ⟨rfl, hb⟩
  replace T0 := (T0.more _).step hb
  clear hb
  obtain ⟨p0, p1, p2, p3, p4, p5, p6⟩ := T0.2.1.facts
  obtain ⟨q0, q1, q2, q3, q4, q5, q6⟩ := T0.2.2.facts
  go_wp2_with fail
  go_ret2
  exact ⟨by rw [HC.out]; rfl, T0.1⟩
theorem ne_toList {m n : Nat} (h : m ≠ n) : ¬ (natS m).toList = (natS n).toList := fun c => h ((natS_list_eq m n).1 c)
theorem sm_wrap {s m : Int} (hs : s = -1 ∨ s = 0 ∨ s = 1) (hm : m = -1 ∨ m = 0 ∨ m = 1) : wrap64 (s * m) = s * m := by
  rcases hs with rfl | rfl | rfl <;> rcases hm with rfl | rfl | rfl <;> exact IntWalk.wrap64_in _ (by decide)
set_option maxRecDepth 100000 in
set_option maxHeartbeats 2000000 in
/-- Cmp of two that are not the same. -/
theorem DCmp_walk (g1 g2 : Bool) (n1 n2 : Nat) (x1 x2 s t m : Int) (w : World)
    (KA : Hid (∀ (W : World) (T : TypeId) (A : Nat), A = W.heap.size → Calls Tryz.prog 39 #[.slice (some ⟨A, 0, none⟩) 2 2] (W.alloc (.cells #[.bool g1, .string (natS n1), .int .i64 x1, .bool g2, .string (natS n2), .int .i64 x2] T)) fun e w' => e = .returned (.int .i64 0) ∧ Below (W.alloc (.cells #[.bool g1, .string (natS n1), .int .i64 x1, .bool g2, .string (natS n2), .int .i64 x2] T)).heap.size (W.alloc (.cells #[.bool g1, .string (natS n1), .int .i64 x1, .bool g2, .string (natS n2), .int .i64 x2] T)) w'))
    (SA : Hid (∀ w, Calls Tryz.prog 81 #[.agg #[.bool g1, .string (natS n1), .int .i64 x1]] w fun e w' => e = .returned (.int .i64 s) ∧ Below w.heap.size w w'))
    (SB : Hid (∀ w, Calls Tryz.prog 81 #[.agg #[.bool g2, .string (natS n2), .int .i64 x2]] w fun e w' => e = .returned (.int .i64 t) ∧ Below w.heap.size w w'))
    (KM : Hid (s = t → ∀ w, Calls Tryz.prog 82 #[.agg #[.bool g1, .string (natS n1), .int .i64 x1], .agg #[.bool g2, .string (natS n2), .int .i64 x2]] w fun e w' => e = .returned (.int .i64 m) ∧ Below w.heap.size w w'))
    (hsm : wrap64 (s * m) = s * m) (hne : ¬ g1 = g2 ∨ (g1 = g2 ∧ n1 ≠ n2) ∨ (g1 = g2 ∧ n1 = n2 ∧ ¬ x1 = x2)) :
    Calls Tryz.prog 51 #[.agg #[.bool g1, .string (natS n1), .int .i64 x1], .agg #[.bool g2, .string (natS n2), .int .i64 x2]] w fun e w' => e = .returned (.tuple #[.int .i64 (if s < t then -1 else if t < s then 1 else s * m), .int .i64 0]) ∧ Below w.heap.size w w' := by
  have T0 := TB.start w ⟨g1, natS n1, x1⟩ ⟨g2, natS n2, x2⟩
  have HSM := Lib.hid hsm
  clear hsm
  have go : ∀ (r : Int), (s < t ∧ r = -1) ∨ (¬ s < t ∧ t < s ∧ r = 1) ∨ (s = t ∧ r = s * m) → Calls Tryz.prog 51 #[.agg #[.bool g1, .string (natS n1), .int .i64 x1], .agg #[.bool g2, .string (natS n2), .int .i64 x2]] w fun e w' => e = .returned (.tuple #[.int .i64 r, .int .i64 0]) ∧ Below w.heap.size w w' := by
    intro r hr
    rcases hne with hg | ⟨hg, hn⟩ | ⟨hg, hn, hx⟩
    · skip
      rcases hr with ⟨h1, rfl⟩ | ⟨h0, h1, rfl⟩ | ⟨rfl, rfl⟩
      · go_enter Tryz.func51, Tryz.ntmps51
        go_wp2_with fail
        refine (KA.out _ _ _ (by simp)).mono ?_
        rintro e w1 ⟨rfl, hb⟩
        replace T0 := (T0.more _).step hb
        clear hb
        obtain ⟨p0, p1, p2, p3, p4, p5, p6⟩ := T0.2.1.facts
        obtain ⟨q0, q1, q2, q3, q4, q5, q6⟩ := T0.2.2.facts
        go_wp2_with fail
        clear p0 p1 p2 p3 p4 p5 p6 q0 q1 q2 q3 q4 q5 q6
        have L0 := fun W (h : TB w ⟨g1, natS n1, x1⟩ ⟨g2, natS n2, x2⟩ W) => h.2.1.facts.2.1
        have L1 := fun W (h : TB w ⟨g1, natS n1, x1⟩ ⟨g2, natS n2, x2⟩ W) => h.2.1.facts.2.2.1
        have L2 := fun W (h : TB w ⟨g1, natS n1, x1⟩ ⟨g2, natS n2, x2⟩ W) => h.2.1.facts.2.2.2.1
        have L3 := fun W (h : TB w ⟨g1, natS n1, x1⟩ ⟨g2, natS n2, x2⟩ W) => h.2.2.facts.2.1
        have L4 := fun W (h : TB w ⟨g1, natS n1, x1⟩ ⟨g2, natS n2, x2⟩ W) => h.2.2.facts.2.2.1
        have L5 := fun W (h : TB w ⟨g1, natS n1, x1⟩ ⟨g2, natS n2, x2⟩ W) => h.2.2.facts.2.2.2.1
        go_region_held3 (TB w ⟨g1, natS n1, x1⟩ ⟨g2, natS n2, x2⟩) (first | assumption | exact TB.step (by assumption) (by assumption) | exact TB.drew (by assumption) | exact TB.drawn (by assumption) _)
          (first
            | (go_at_call 81; with_reducible refine (SA.out _).mono ?_; rintro e w' ⟨rfl, hb7⟩)
            | (go_at_call 81; with_reducible refine (SB.out _).mono ?_; rintro e w' ⟨rfl, hb7⟩))
        rename_i hHeld
        clear T0 L0 L1 L2 L3 L4 L5
        obtain ⟨p0, p1, p2, p3, p4, p5, p6⟩ := hHeld.2.1.facts
        obtain ⟨q0, q1, q2, q3, q4, q5, q6⟩ := hHeld.2.2.facts
        go_wp2_with fail
        go_ret2
        exact ⟨rfl, hHeld.1⟩
      · go_enter Tryz.func51, Tryz.ntmps51
        go_wp2_with fail
        refine (KA.out _ _ _ (by simp)).mono ?_
        rintro e w1 ⟨rfl, hb⟩
        replace T0 := (T0.more _).step hb
        clear hb
        obtain ⟨p0, p1, p2, p3, p4, p5, p6⟩ := T0.2.1.facts
        obtain ⟨q0, q1, q2, q3, q4, q5, q6⟩ := T0.2.2.facts
        go_wp2_with fail
        clear p0 p1 p2 p3 p4 p5 p6 q0 q1 q2 q3 q4 q5 q6
        have L0 := fun W (h : TB w ⟨g1, natS n1, x1⟩ ⟨g2, natS n2, x2⟩ W) => h.2.1.facts.2.1
        have L1 := fun W (h : TB w ⟨g1, natS n1, x1⟩ ⟨g2, natS n2, x2⟩ W) => h.2.1.facts.2.2.1
        have L2 := fun W (h : TB w ⟨g1, natS n1, x1⟩ ⟨g2, natS n2, x2⟩ W) => h.2.1.facts.2.2.2.1
        have L3 := fun W (h : TB w ⟨g1, natS n1, x1⟩ ⟨g2, natS n2, x2⟩ W) => h.2.2.facts.2.1
        have L4 := fun W (h : TB w ⟨g1, natS n1, x1⟩ ⟨g2, natS n2, x2⟩ W) => h.2.2.facts.2.2.1
        have L5 := fun W (h : TB w ⟨g1, natS n1, x1⟩ ⟨g2, natS n2, x2⟩ W) => h.2.2.facts.2.2.2.1
        go_region_held3 (TB w ⟨g1, natS n1, x1⟩ ⟨g2, natS n2, x2⟩) (first | assumption | exact TB.step (by assumption) (by assumption) | exact TB.drew (by assumption) | exact TB.drawn (by assumption) _)
          (first
            | (go_at_call 81; with_reducible refine (SA.out _).mono ?_; rintro e w' ⟨rfl, hb7⟩)
            | (go_at_call 81; with_reducible refine (SB.out _).mono ?_; rintro e w' ⟨rfl, hb7⟩))
        rename_i hHeld
        clear T0 L0 L1 L2 L3 L4 L5
        obtain ⟨p0, p1, p2, p3, p4, p5, p6⟩ := hHeld.2.1.facts
        obtain ⟨q0, q1, q2, q3, q4, q5, q6⟩ := hHeld.2.2.facts
        go_wp2_with fail
        go_ret2
        exact ⟨rfl, hHeld.1⟩
      · have KG := Lib.hid (KM.out rfl)
        go_enter Tryz.func51, Tryz.ntmps51
        go_wp2_with fail
        refine (KA.out _ _ _ (by simp)).mono ?_
        rintro e w1 ⟨rfl, hb⟩
        replace T0 := (T0.more _).step hb
        clear hb
        obtain ⟨p0, p1, p2, p3, p4, p5, p6⟩ := T0.2.1.facts
        obtain ⟨q0, q1, q2, q3, q4, q5, q6⟩ := T0.2.2.facts
        go_wp2_with fail
        clear p0 p1 p2 p3 p4 p5 p6 q0 q1 q2 q3 q4 q5 q6
        have L0 := fun W (h : TB w ⟨g1, natS n1, x1⟩ ⟨g2, natS n2, x2⟩ W) => h.2.1.facts.2.1
        have L1 := fun W (h : TB w ⟨g1, natS n1, x1⟩ ⟨g2, natS n2, x2⟩ W) => h.2.1.facts.2.2.1
        have L2 := fun W (h : TB w ⟨g1, natS n1, x1⟩ ⟨g2, natS n2, x2⟩ W) => h.2.1.facts.2.2.2.1
        have L3 := fun W (h : TB w ⟨g1, natS n1, x1⟩ ⟨g2, natS n2, x2⟩ W) => h.2.2.facts.2.1
        have L4 := fun W (h : TB w ⟨g1, natS n1, x1⟩ ⟨g2, natS n2, x2⟩ W) => h.2.2.facts.2.2.1
        have L5 := fun W (h : TB w ⟨g1, natS n1, x1⟩ ⟨g2, natS n2, x2⟩ W) => h.2.2.facts.2.2.2.1
        go_region_held3 (TB w ⟨g1, natS n1, x1⟩ ⟨g2, natS n2, x2⟩) (first | assumption | exact TB.step (by assumption) (by assumption) | exact TB.drew (by assumption) | exact TB.drawn (by assumption) _)
          (first
            | (go_at_call 81; with_reducible refine (SA.out _).mono ?_; rintro e w' ⟨rfl, hb7⟩)
            | (go_at_call 81; with_reducible refine (SB.out _).mono ?_; rintro e w' ⟨rfl, hb7⟩))
        rename_i hHeld
        clear T0 L0 L1 L2 L3 L4 L5
        obtain ⟨p0, p1, p2, p3, p4, p5, p6⟩ := hHeld.2.1.facts
        obtain ⟨q0, q1, q2, q3, q4, q5, q6⟩ := hHeld.2.2.facts
        go_wp2_with fail
        refine (KG.out _).mono ?_
        rintro e w2 ⟨rfl, hb⟩
        go_wp2_with fail
        go_ret2
        refine ⟨?_, (hHeld.step hb).1⟩
        show Ending.returned (.tuple #[.int .i64 (wrap64 (s * m)), .int .i64 0]) = _
        rw [HSM.out]
    · subst hg
      have hl := ne_toList hn
      rcases hr with ⟨h1, rfl⟩ | ⟨h0, h1, rfl⟩ | ⟨rfl, rfl⟩
      · go_enter Tryz.func51, Tryz.ntmps51
        go_wp2_with fail
        refine (KA.out _ _ _ (by simp)).mono ?_
        rintro e w1 ⟨rfl, hb⟩
        replace T0 := (T0.more _).step hb
        clear hb
        obtain ⟨p0, p1, p2, p3, p4, p5, p6⟩ := T0.2.1.facts
        obtain ⟨q0, q1, q2, q3, q4, q5, q6⟩ := T0.2.2.facts
        go_wp2_with fail
        clear p0 p1 p2 p3 p4 p5 p6 q0 q1 q2 q3 q4 q5 q6
        have L0 := fun W (h : TB w ⟨g1, natS n1, x1⟩ ⟨g1, natS n2, x2⟩ W) => h.2.1.facts.2.1
        have L1 := fun W (h : TB w ⟨g1, natS n1, x1⟩ ⟨g1, natS n2, x2⟩ W) => h.2.1.facts.2.2.1
        have L2 := fun W (h : TB w ⟨g1, natS n1, x1⟩ ⟨g1, natS n2, x2⟩ W) => h.2.1.facts.2.2.2.1
        have L3 := fun W (h : TB w ⟨g1, natS n1, x1⟩ ⟨g1, natS n2, x2⟩ W) => h.2.2.facts.2.1
        have L4 := fun W (h : TB w ⟨g1, natS n1, x1⟩ ⟨g1, natS n2, x2⟩ W) => h.2.2.facts.2.2.1
        have L5 := fun W (h : TB w ⟨g1, natS n1, x1⟩ ⟨g1, natS n2, x2⟩ W) => h.2.2.facts.2.2.2.1
        go_region_held3 (TB w ⟨g1, natS n1, x1⟩ ⟨g1, natS n2, x2⟩) (first | assumption | exact TB.step (by assumption) (by assumption) | exact TB.drew (by assumption) | exact TB.drawn (by assumption) _)
          (first
            | (go_at_call 81; with_reducible refine (SA.out _).mono ?_; rintro e w' ⟨rfl, hb7⟩)
            | (go_at_call 81; with_reducible refine (SB.out _).mono ?_; rintro e w' ⟨rfl, hb7⟩))
        rename_i hHeld
        clear T0 L0 L1 L2 L3 L4 L5
        obtain ⟨p0, p1, p2, p3, p4, p5, p6⟩ := hHeld.2.1.facts
        obtain ⟨q0, q1, q2, q3, q4, q5, q6⟩ := hHeld.2.2.facts
        go_wp2_with fail
        go_ret2
        exact ⟨rfl, hHeld.1⟩
      · go_enter Tryz.func51, Tryz.ntmps51
        go_wp2_with fail
        refine (KA.out _ _ _ (by simp)).mono ?_
        rintro e w1 ⟨rfl, hb⟩
        replace T0 := (T0.more _).step hb
        clear hb
        obtain ⟨p0, p1, p2, p3, p4, p5, p6⟩ := T0.2.1.facts
        obtain ⟨q0, q1, q2, q3, q4, q5, q6⟩ := T0.2.2.facts
        go_wp2_with fail
        clear p0 p1 p2 p3 p4 p5 p6 q0 q1 q2 q3 q4 q5 q6
        have L0 := fun W (h : TB w ⟨g1, natS n1, x1⟩ ⟨g1, natS n2, x2⟩ W) => h.2.1.facts.2.1
        have L1 := fun W (h : TB w ⟨g1, natS n1, x1⟩ ⟨g1, natS n2, x2⟩ W) => h.2.1.facts.2.2.1
        have L2 := fun W (h : TB w ⟨g1, natS n1, x1⟩ ⟨g1, natS n2, x2⟩ W) => h.2.1.facts.2.2.2.1
        have L3 := fun W (h : TB w ⟨g1, natS n1, x1⟩ ⟨g1, natS n2, x2⟩ W) => h.2.2.facts.2.1
        have L4 := fun W (h : TB w ⟨g1, natS n1, x1⟩ ⟨g1, natS n2, x2⟩ W) => h.2.2.facts.2.2.1
        have L5 := fun W (h : TB w ⟨g1, natS n1, x1⟩ ⟨g1, natS n2, x2⟩ W) => h.2.2.facts.2.2.2.1
        go_region_held3 (TB w ⟨g1, natS n1, x1⟩ ⟨g1, natS n2, x2⟩) (first | assumption | exact TB.step (by assumption) (by assumption) | exact TB.drew (by assumption) | exact TB.drawn (by assumption) _)
          (first
            | (go_at_call 81; with_reducible refine (SA.out _).mono ?_; rintro e w' ⟨rfl, hb7⟩)
            | (go_at_call 81; with_reducible refine (SB.out _).mono ?_; rintro e w' ⟨rfl, hb7⟩))
        rename_i hHeld
        clear T0 L0 L1 L2 L3 L4 L5
        obtain ⟨p0, p1, p2, p3, p4, p5, p6⟩ := hHeld.2.1.facts
        obtain ⟨q0, q1, q2, q3, q4, q5, q6⟩ := hHeld.2.2.facts
        go_wp2_with fail
        go_ret2
        exact ⟨rfl, hHeld.1⟩
      · have KG := Lib.hid (KM.out rfl)
        go_enter Tryz.func51, Tryz.ntmps51
        go_wp2_with fail
        refine (KA.out _ _ _ (by simp)).mono ?_
        rintro e w1 ⟨rfl, hb⟩
        replace T0 := (T0.more _).step hb
        clear hb
        obtain ⟨p0, p1, p2, p3, p4, p5, p6⟩ := T0.2.1.facts
        obtain ⟨q0, q1, q2, q3, q4, q5, q6⟩ := T0.2.2.facts
        go_wp2_with fail
        clear p0 p1 p2 p3 p4 p5 p6 q0 q1 q2 q3 q4 q5 q6
        have L0 := fun W (h : TB w ⟨g1, natS n1, x1⟩ ⟨g1, natS n2, x2⟩ W) => h.2.1.facts.2.1
        have L1 := fun W (h : TB w ⟨g1, natS n1, x1⟩ ⟨g1, natS n2, x2⟩ W) => h.2.1.facts.2.2.1
        have L2 := fun W (h : TB w ⟨g1, natS n1, x1⟩ ⟨g1, natS n2, x2⟩ W) => h.2.1.facts.2.2.2.1
        have L3 := fun W (h : TB w ⟨g1, natS n1, x1⟩ ⟨g1, natS n2, x2⟩ W) => h.2.2.facts.2.1
        have L4 := fun W (h : TB w ⟨g1, natS n1, x1⟩ ⟨g1, natS n2, x2⟩ W) => h.2.2.facts.2.2.1
        have L5 := fun W (h : TB w ⟨g1, natS n1, x1⟩ ⟨g1, natS n2, x2⟩ W) => h.2.2.facts.2.2.2.1
        go_region_held3 (TB w ⟨g1, natS n1, x1⟩ ⟨g1, natS n2, x2⟩) (first | assumption | exact TB.step (by assumption) (by assumption) | exact TB.drew (by assumption) | exact TB.drawn (by assumption) _)
          (first
            | (go_at_call 81; with_reducible refine (SA.out _).mono ?_; rintro e w' ⟨rfl, hb7⟩)
            | (go_at_call 81; with_reducible refine (SB.out _).mono ?_; rintro e w' ⟨rfl, hb7⟩))
        rename_i hHeld
        clear T0 L0 L1 L2 L3 L4 L5
        obtain ⟨p0, p1, p2, p3, p4, p5, p6⟩ := hHeld.2.1.facts
        obtain ⟨q0, q1, q2, q3, q4, q5, q6⟩ := hHeld.2.2.facts
        go_wp2_with fail
        refine (KG.out _).mono ?_
        rintro e w2 ⟨rfl, hb⟩
        go_wp2_with fail
        go_ret2
        refine ⟨?_, (hHeld.step hb).1⟩
        show Ending.returned (.tuple #[.int .i64 (wrap64 (s * m)), .int .i64 0]) = _
        rw [HSM.out]
    · subst hg hn
      rcases hr with ⟨h1, rfl⟩ | ⟨h0, h1, rfl⟩ | ⟨rfl, rfl⟩
      · go_enter Tryz.func51, Tryz.ntmps51
        go_wp2_with fail
        refine (KA.out _ _ _ (by simp)).mono ?_
        rintro e w1 ⟨rfl, hb⟩
        replace T0 := (T0.more _).step hb
        clear hb
        obtain ⟨p0, p1, p2, p3, p4, p5, p6⟩ := T0.2.1.facts
        obtain ⟨q0, q1, q2, q3, q4, q5, q6⟩ := T0.2.2.facts
        go_wp2_with fail
        clear p0 p1 p2 p3 p4 p5 p6 q0 q1 q2 q3 q4 q5 q6
        have L0 := fun W (h : TB w ⟨g1, natS n1, x1⟩ ⟨g1, natS n1, x2⟩ W) => h.2.1.facts.2.1
        have L1 := fun W (h : TB w ⟨g1, natS n1, x1⟩ ⟨g1, natS n1, x2⟩ W) => h.2.1.facts.2.2.1
        have L2 := fun W (h : TB w ⟨g1, natS n1, x1⟩ ⟨g1, natS n1, x2⟩ W) => h.2.1.facts.2.2.2.1
        have L3 := fun W (h : TB w ⟨g1, natS n1, x1⟩ ⟨g1, natS n1, x2⟩ W) => h.2.2.facts.2.1
        have L4 := fun W (h : TB w ⟨g1, natS n1, x1⟩ ⟨g1, natS n1, x2⟩ W) => h.2.2.facts.2.2.1
        have L5 := fun W (h : TB w ⟨g1, natS n1, x1⟩ ⟨g1, natS n1, x2⟩ W) => h.2.2.facts.2.2.2.1
        go_region_held3 (TB w ⟨g1, natS n1, x1⟩ ⟨g1, natS n1, x2⟩) (first | assumption | exact TB.step (by assumption) (by assumption) | exact TB.drew (by assumption) | exact TB.drawn (by assumption) _)
          (first
            | (go_at_call 81; with_reducible refine (SA.out _).mono ?_; rintro e w' ⟨rfl, hb7⟩)
            | (go_at_call 81; with_reducible refine (SB.out _).mono ?_; rintro e w' ⟨rfl, hb7⟩))
        rename_i hHeld
        clear T0 L0 L1 L2 L3 L4 L5
        obtain ⟨p0, p1, p2, p3, p4, p5, p6⟩ := hHeld.2.1.facts
        obtain ⟨q0, q1, q2, q3, q4, q5, q6⟩ := hHeld.2.2.facts
        go_wp2_with fail
        go_ret2
        exact ⟨rfl, hHeld.1⟩
      · go_enter Tryz.func51, Tryz.ntmps51
        go_wp2_with fail
        refine (KA.out _ _ _ (by simp)).mono ?_
        rintro e w1 ⟨rfl, hb⟩
        replace T0 := (T0.more _).step hb
        clear hb
        obtain ⟨p0, p1, p2, p3, p4, p5, p6⟩ := T0.2.1.facts
        obtain ⟨q0, q1, q2, q3, q4, q5, q6⟩ := T0.2.2.facts
        go_wp2_with fail
        clear p0 p1 p2 p3 p4 p5 p6 q0 q1 q2 q3 q4 q5 q6
        have L0 := fun W (h : TB w ⟨g1, natS n1, x1⟩ ⟨g1, natS n1, x2⟩ W) => h.2.1.facts.2.1
        have L1 := fun W (h : TB w ⟨g1, natS n1, x1⟩ ⟨g1, natS n1, x2⟩ W) => h.2.1.facts.2.2.1
        have L2 := fun W (h : TB w ⟨g1, natS n1, x1⟩ ⟨g1, natS n1, x2⟩ W) => h.2.1.facts.2.2.2.1
        have L3 := fun W (h : TB w ⟨g1, natS n1, x1⟩ ⟨g1, natS n1, x2⟩ W) => h.2.2.facts.2.1
        have L4 := fun W (h : TB w ⟨g1, natS n1, x1⟩ ⟨g1, natS n1, x2⟩ W) => h.2.2.facts.2.2.1
        have L5 := fun W (h : TB w ⟨g1, natS n1, x1⟩ ⟨g1, natS n1, x2⟩ W) => h.2.2.facts.2.2.2.1
        go_region_held3 (TB w ⟨g1, natS n1, x1⟩ ⟨g1, natS n1, x2⟩) (first | assumption | exact TB.step (by assumption) (by assumption) | exact TB.drew (by assumption) | exact TB.drawn (by assumption) _)
          (first
            | (go_at_call 81; with_reducible refine (SA.out _).mono ?_; rintro e w' ⟨rfl, hb7⟩)
            | (go_at_call 81; with_reducible refine (SB.out _).mono ?_; rintro e w' ⟨rfl, hb7⟩))
        rename_i hHeld
        clear T0 L0 L1 L2 L3 L4 L5
        obtain ⟨p0, p1, p2, p3, p4, p5, p6⟩ := hHeld.2.1.facts
        obtain ⟨q0, q1, q2, q3, q4, q5, q6⟩ := hHeld.2.2.facts
        go_wp2_with fail
        go_ret2
        exact ⟨rfl, hHeld.1⟩
      · have KG := Lib.hid (KM.out rfl)
        go_enter Tryz.func51, Tryz.ntmps51
        go_wp2_with fail
        refine (KA.out _ _ _ (by simp)).mono ?_
        rintro e w1 ⟨rfl, hb⟩
        replace T0 := (T0.more _).step hb
        clear hb
        obtain ⟨p0, p1, p2, p3, p4, p5, p6⟩ := T0.2.1.facts
        obtain ⟨q0, q1, q2, q3, q4, q5, q6⟩ := T0.2.2.facts
        go_wp2_with fail
        clear p0 p1 p2 p3 p4 p5 p6 q0 q1 q2 q3 q4 q5 q6
        have L0 := fun W (h : TB w ⟨g1, natS n1, x1⟩ ⟨g1, natS n1, x2⟩ W) => h.2.1.facts.2.1
        have L1 := fun W (h : TB w ⟨g1, natS n1, x1⟩ ⟨g1, natS n1, x2⟩ W) => h.2.1.facts.2.2.1
        have L2 := fun W (h : TB w ⟨g1, natS n1, x1⟩ ⟨g1, natS n1, x2⟩ W) => h.2.1.facts.2.2.2.1
        have L3 := fun W (h : TB w ⟨g1, natS n1, x1⟩ ⟨g1, natS n1, x2⟩ W) => h.2.2.facts.2.1
        have L4 := fun W (h : TB w ⟨g1, natS n1, x1⟩ ⟨g1, natS n1, x2⟩ W) => h.2.2.facts.2.2.1
        have L5 := fun W (h : TB w ⟨g1, natS n1, x1⟩ ⟨g1, natS n1, x2⟩ W) => h.2.2.facts.2.2.2.1
        go_region_held3 (TB w ⟨g1, natS n1, x1⟩ ⟨g1, natS n1, x2⟩) (first | assumption | exact TB.step (by assumption) (by assumption) | exact TB.drew (by assumption) | exact TB.drawn (by assumption) _)
          (first
            | (go_at_call 81; with_reducible refine (SA.out _).mono ?_; rintro e w' ⟨rfl, hb7⟩)
            | (go_at_call 81; with_reducible refine (SB.out _).mono ?_; rintro e w' ⟨rfl, hb7⟩))
        rename_i hHeld
        clear T0 L0 L1 L2 L3 L4 L5
        obtain ⟨p0, p1, p2, p3, p4, p5, p6⟩ := hHeld.2.1.facts
        obtain ⟨q0, q1, q2, q3, q4, q5, q6⟩ := hHeld.2.2.facts
        go_wp2_with fail
        refine (KG.out _).mono ?_
        rintro e w2 ⟨rfl, hb⟩
        go_wp2_with fail
        go_ret2
        refine ⟨?_, (hHeld.step hb).1⟩
        show Ending.returned (.tuple #[.int .i64 (wrap64 (s * m)), .int .i64 0]) = _
        rw [HSM.out]
  by_cases h1 : s < t
  · rw [if_pos h1]; exact go _ (Or.inl ⟨h1, rfl⟩)
  · rw [if_neg h1]
    by_cases h2 : t < s
    · rw [if_pos h2]; exact go _ (Or.inr (Or.inl ⟨h1, h2, rfl⟩))
    · rw [if_neg h2]; exact go _ (Or.inr (Or.inr ⟨by omega, rfl⟩))
theorem DCmp_c (a b : Dy) (w : World) (ha : a.Ok) (hb : b.Ok) :
    Calls Tryz.prog 51 #[.agg #[.bool a.g, .string (natS a.n), .int .i64 a.x], .agg #[.bool b.g, .string (natS b.n), .int .i64 b.x]] w fun e w' => e = .returned (.tuple #[.int .i64 (cmpD a b), .int .i64 0]) ∧ Below w.heap.size w w' := by
  by_cases hab : a = b
  · subst hab; exact DCmp_same a w ha
  · have he : dE [a.t, b.t] = 0 := dE_ok fun t ht => by
      rcases List.mem_cons.1 ht with rfl | ht
      · exact Dy.ok_t ha
      · rw [List.mem_singleton.1 ht]; exact Dy.ok_t hb
    have KA := Lib.hid (fun W T A hA => Dall2 a.t b.t W T A hA (by have := Dy.small ha; show (natS a.n).size ≤ _; omega) (by have := Dy.small hb; show (natS b.n).size ≤ _; omega))
    rw [he] at KA
    have hsb := sgD_b a
    have hmb := magC_b a b
    have hdis : ¬ a.g = b.g ∨ (a.g = b.g ∧ a.n ≠ b.n) ∨ (a.g = b.g ∧ a.n = b.n ∧ ¬ a.x = b.x) := by
      by_cases h1 : a.g = b.g
      · by_cases h2 : a.n = b.n
        · refine Or.inr (Or.inr ⟨h1, h2, fun h3 => hab ?_⟩)
          obtain ⟨g, n, x⟩ := a
          obtain ⟨g', n', x'⟩ := b
          simp only at h1 h2 h3
          rw [h1, h2, h3]
        · exact Or.inr (Or.inl ⟨h1, h2⟩)
      · exact Or.inl h1
    have K := DCmp_walk a.g b.g a.n b.n a.x b.x (sgD a) (sgD b) (if sgD a = 0 then 0 else magC a b) w KA (Lib.hid fun w => DSign_c a ha w) (Lib.hid fun w => DSign_c b hb w)
      (Lib.hid fun h w => by
        by_cases h0 : sgD a = 0
        · exfalso
          apply hab
          rw [Dy.zero_of ha h0, Dy.zero_of hb (h ▸ h0)]
        · rw [if_neg h0]
          exact Dmag_c a b w (Dy.num_of ha h0) (Dy.num_of hb (h ▸ h0)))
      (sm_wrap hsb (by split <;> omega)) hdis
    have e : (if sgD a < sgD b then -1 else if sgD b < sgD a then 1 else sgD a * (if sgD a = 0 then 0 else magC a b)) = cmpD a b := by
      by_cases h1 : sgD a < sgD b
      · rw [if_pos h1, cmpD_lt h1]
      · rw [if_neg h1]
        by_cases h2 : sgD b < sgD a
        · rw [if_pos h2, cmpD_gt h2]
        · rw [if_neg h2]
          by_cases h3 : sgD a = 0
          · rw [if_pos h3, h3, Int.mul_zero, cmpD_zero (by omega) h3]
          · rw [if_neg h3, cmpD_eq (by omega) h3]
    rw [e] at K
    exact K
end Go.Proofs.YtjalpocjgpgcfaaGreatDoor
set_option linter.unusedSimpArgs false
set_option linter.unusedVariables false
namespace Go.Proofs.YtjalpocjgpgcfaaGreatDoor
open Go Go.RowKit Nt

theorem rSignD3_c (d : Dy) (h : d.Ok) (w : World) : Calls Tryz.prog 66 #[.agg #[.bool d.g, .string (natS d.n), .int .i64 d.x]] w fun e w' => e = .returned (.int .i64 (sgD d)) ∧ Below w.heap.size w w' := by
  rcases h with rfl | h
  · rw [sgD_zero]
    show Calls _ _ #[.agg #[.bool false, .string (natS 0), .int .i64 0]] _ _
    rw [natS_zero]; exact rSign3_zero w
  · rw [sgD_num (odd_ne h.2.1)]
    exact rSign3_num d.g d.n d.x w (odd_ne h.2.1)
/-- The signs differ, or both are 0. -/
theorem rCmpD3_sgn (a b : Dy) (w : World) (ha : a.Ok) (hb : b.Ok) (r : Int) (hr : (sgD a < sgD b ∧ r = -1) ∨ (¬ sgD a < sgD b ∧ sgD b < sgD a ∧ r = 1) ∨ (sgD a = 0 ∧ sgD b = 0 ∧ r = 0)) :
    Calls Tryz.prog 38 #[.agg #[.bool a.g, .string (natS a.n), .int .i64 a.x], .agg #[.bool b.g, .string (natS b.n), .int .i64 b.x]] w fun e w' => e = .returned (.int .i64 r) ∧ Below w.heap.size w w' := by
  have T0 := TB.start w a.t b.t
  have SA := Lib.hid (fun w => rSignD3_c a ha w)
  have SB := Lib.hid (fun w => rSignD3_c b hb w)
  have hr2 : (((sgD a : Int) != sgD b) = true ∧ ((sgD a < sgD b ∧ r = -1) ∨ (¬ sgD a < sgD b ∧ sgD b < sgD a ∧ r = 1))) ∨ (sgD a = 0 ∧ sgD b = 0 ∧ r = 0) := by
    rcases hr with ⟨h1, h2⟩ | ⟨h1, h2, h3⟩ | h
    · exact Or.inl ⟨by rw [bne_iff_ne]; omega, Or.inl ⟨h1, h2⟩⟩
    · exact Or.inl ⟨by rw [bne_iff_ne]; omega, Or.inr ⟨h1, h2, h3⟩⟩
    · exact Or.inr h
  clear hr ha hb
  obtain ⟨g1, n1, x1⟩ := a
  obtain ⟨g2, n2, x2⟩ := b
  simp only [Dy.t] at T0 SA SB ⊢
  generalize sgD ⟨g1, n1, x1⟩ = s at *
  generalize sgD ⟨g2, n2, x2⟩ = t at *
  rcases hr2 with ⟨h0, ⟨h1, rfl⟩ | ⟨h1, h2, rfl⟩⟩ | ⟨rfl, rfl, rfl⟩
  all_goals
    go_enter Tryz.func38, Tryz.ntmps38
    go_wp2_with fail
    have L0 := fun W (h : TB w ⟨g1, natS n1, x1⟩ ⟨g2, natS n2, x2⟩ W) => h.2.1.facts.2.1
    have L1 := fun W (h : TB w ⟨g1, natS n1, x1⟩ ⟨g2, natS n2, x2⟩ W) => h.2.1.facts.2.2.1
    have L2 := fun W (h : TB w ⟨g1, natS n1, x1⟩ ⟨g2, natS n2, x2⟩ W) => h.2.1.facts.2.2.2.1
    have L3 := fun W (h : TB w ⟨g1, natS n1, x1⟩ ⟨g2, natS n2, x2⟩ W) => h.2.2.facts.2.1
    have L4 := fun W (h : TB w ⟨g1, natS n1, x1⟩ ⟨g2, natS n2, x2⟩ W) => h.2.2.facts.2.2.1
    have L5 := fun W (h : TB w ⟨g1, natS n1, x1⟩ ⟨g2, natS n2, x2⟩ W) => h.2.2.facts.2.2.2.1
    go_region_held3 (TB w ⟨g1, natS n1, x1⟩ ⟨g2, natS n2, x2⟩) (first | assumption | exact TB.step (by assumption) (by assumption) | exact TB.drew (by assumption) | exact TB.drawn (by assumption) _)
      (first
        | (go_at_call 66; with_reducible refine (SA.out _).mono ?_; rintro e w' ⟨rfl, hb7⟩)
        | (go_at_call 66; with_reducible refine (SB.out _).mono ?_; rintro e w' ⟨rfl, hb7⟩))
    rename_i hHeld
    clear T0 L0 L1 L2 L3 L4 L5
    go_wp2_with fail
    go_ret
    exact ⟨rfl, hHeld.1⟩
theorem neg_sgn {s : Int} (h : s = -1 ∨ s = 0 ∨ s = 1) : wrap64 (-s) = -s := by rcases h with rfl | rfl | rfl <;> exact IntWalk.wrap64_in _ (by decide)
set_option maxRecDepth 100000 in
set_option maxHeartbeats 2000000 in
theorem rCmpD3_num (a b : Dy) (w : World) (ha : a.Num) (hb : b.Num) (hs : sgD a = sgD b) :
    Calls Tryz.prog 38 #[.agg #[.bool a.g, .string (natS a.n), .int .i64 a.x], .agg #[.bool b.g, .string (natS b.n), .int .i64 b.x]] w fun e w' => e = .returned (.int .i64 (sgD a * magC a b)) ∧ Below w.heap.size w w' := by
  have hna := odd_ne ha.2.1
  have hnb := odd_ne hb.2.1
  have T0 := TB.start w a.t b.t
  have SA := Lib.hid (fun w => rSignD3_c a (Or.inr ha) w)
  have SB := Lib.hid (fun w => rSignD3_c b (Or.inr hb) w)
  rw [← hs] at SB
  have hs0 := sgD_ne hna
  have hs1 : ((sgD a : Int) == 0) = false := by rw [beq_eq_false_iff_ne]; exact hs0
  have KA := Lib.hid (fun w => rTop3_num a.g a.n a.x w ha.1 hna ha.2.2.1 ha.2.2.2)
  have KB := Lib.hid (fun w => rTop3_num b.g b.n b.x w hb.1 hnb hb.2.2.1 hb.2.2.2)
  rw [← topD_eq] at KA KB
  have HSB := Lib.hid (neg_sgn (sgD_b a))
  have HSM := Lib.hid (sm_wrap (sgD_b a) (magC_b a b))
  have hfa : nd 256 a.n ≤ 16384 := ha.1
  have hfb : nd 256 b.n ≤ 16384 := hb.1
  have KO := Lib.hid (fun w => rOf3_c a.n w (by omega))
  have KP := Lib.hid (fun w => rOf3_c b.n w (by omega))
  have hxa := ha.2.2
  have hxb := hb.2.2
  have hcase : (topD a < topD b ∧ Hid (magC a b = -1)) ∨ (¬ topD a < topD b ∧ topD b < topD a ∧ Hid (magC a b = 1)) ∨
      (topD a = topD b ∧ ∃ j : Nat, j ≤ 2097152 ∧ b.x < a.x ∧ a.x - b.x = (j : Int) ∧ Hid (fits (a.n * 2 ^ j) ∧ magC a b = cmpN (a.n * 2 ^ j) b.n)) ∨
      (topD a = topD b ∧ ∃ j : Nat, j ≤ 2097152 ∧ ¬ b.x < a.x ∧ b.x - a.x = (j : Int) ∧ Hid (fits (b.n * 2 ^ j) ∧ magC a b = cmpN a.n (b.n * 2 ^ j))) := by
    rcases Int.lt_trichotomy (topD a) (topD b) with h | h | h
    · exact Or.inl ⟨h, Lib.hid (magC_lt h)⟩
    · by_cases hx : b.x < a.x
      · obtain ⟨h1, h2, h3⟩ := up_fits ha hb h hx
        refine Or.inr (Or.inr (Or.inl ⟨h, (a.x - b.x).toNat, by omega, hx, by omega, Lib.hid ⟨h1, ?_⟩⟩))
        rw [magC_eq h, h2, h3]
      · refine Or.inr (Or.inr (Or.inr ⟨h, (b.x - a.x).toNat, by omega, hx, by omega, Lib.hid ?_⟩))
        by_cases hx2 : a.x < b.x
        · obtain ⟨h1, h2, h3⟩ := up_fits hb ha h.symm hx2
          exact ⟨h1, by rw [magC_eq h, h2, h3]⟩
        · have e1 : (b.x - a.x).toNat = 0 := by omega
          have e2 : (a.x - b.x).toNat = 0 := by omega
          rw [e1, Nat.pow_zero, Nat.mul_one, magC_eq h, upN_eq, upN_eq, e1, e2, Nat.pow_zero, Nat.mul_one, Nat.mul_one]
          exact ⟨hb.1, rfl⟩
    · exact Or.inr (Or.inl ⟨by omega, h, Lib.hid (magC_gt h)⟩)
  clear ha hb hs
  obtain ⟨g1, n1, x1⟩ := a
  obtain ⟨g2, n2, x2⟩ := b
  simp only [Dy.t] at T0 SA SB KA KB KO KP hcase hxa hxb hfa hfb HSM HSB ⊢
  generalize sgD ⟨g1, n1, x1⟩ = s at *
  generalize topD ⟨g1, n1, x1⟩ = ta at *
  generalize topD ⟨g2, n2, x2⟩ = tb at *
  generalize magC ⟨g1, n1, x1⟩ ⟨g2, n2, x2⟩ = mg at *
  clear hna hnb
  rcases hcase with ⟨h1, hm⟩ | ⟨h0, h1, hm⟩ | ⟨h1, j, hj, hx, hjx, hm⟩ | ⟨h1, j, hj, hx, hjx, hm⟩
  · have h2 : ((ta : Int) != tb) = true := by rw [bne_iff_ne]; omega
    go_enter Tryz.func38, Tryz.ntmps38
    go_wp2_with fail
    have L0 := fun W (h : TB w ⟨g1, natS n1, x1⟩ ⟨g2, natS n2, x2⟩ W) => h.2.1.facts.2.1
    have L1 := fun W (h : TB w ⟨g1, natS n1, x1⟩ ⟨g2, natS n2, x2⟩ W) => h.2.1.facts.2.2.1
    have L2 := fun W (h : TB w ⟨g1, natS n1, x1⟩ ⟨g2, natS n2, x2⟩ W) => h.2.1.facts.2.2.2.1
    have L3 := fun W (h : TB w ⟨g1, natS n1, x1⟩ ⟨g2, natS n2, x2⟩ W) => h.2.2.facts.2.1
    have L4 := fun W (h : TB w ⟨g1, natS n1, x1⟩ ⟨g2, natS n2, x2⟩ W) => h.2.2.facts.2.2.1
    have L5 := fun W (h : TB w ⟨g1, natS n1, x1⟩ ⟨g2, natS n2, x2⟩ W) => h.2.2.facts.2.2.2.1
    go_region_held3 (TB w ⟨g1, natS n1, x1⟩ ⟨g2, natS n2, x2⟩) (first | assumption | exact TB.step (by assumption) (by assumption) | exact TB.drew (by assumption) | exact TB.drawn (by assumption) _)
      (first
        | (go_at_call 66; with_reducible refine (SA.out _).mono ?_; rintro e w' ⟨rfl, hb7⟩)
        | (go_at_call 66; with_reducible refine (SB.out _).mono ?_; rintro e w' ⟨rfl, hb7⟩))
    rename_i hHeld
    clear T0 L0 L1 L2 L3 L4 L5
    have T0 := hHeld
    clear hHeld
    obtain ⟨p0, p1, p2, p3, p4, p5, p6⟩ := T0.2.1.facts
    obtain ⟨q0, q1, q2, q3, q4, q5, q6⟩ := T0.2.2.facts
    go_wp2_with fail
    refine (KA.out _).mono ?_
    rintro e w1 ⟨rfl, hb⟩
    replace T0 := T0.step hb
    clear hb p0 p1 p2 p3 p4 p5 p6 q0 q1 q2 q3 q4 q5 q6
    obtain ⟨p0, p1, p2, p3, p4, p5, p6⟩ := T0.2.1.facts
    obtain ⟨q0, q1, q2, q3, q4, q5, q6⟩ := T0.2.2.facts
    go_wp2_with fail
    refine (KB.out _).mono ?_
    rintro e w2 ⟨rfl, hb⟩
    replace T0 := T0.step hb
    clear hb p0 p1 p2 p3 p4 p5 p6 q0 q1 q2 q3 q4 q5 q6
    obtain ⟨p0, p1, p2, p3, p4, p5, p6⟩ := T0.2.1.facts
    obtain ⟨q0, q1, q2, q3, q4, q5, q6⟩ := T0.2.2.facts
    go_wp2_with fail
    go_ret
    refine ⟨?_, T0.1⟩
    show Ending.returned (.int .i64 (wrap64 (-s))) = _
    rw [HSB.out, hm.out, Int.mul_neg, Int.mul_one]
  · have h2 : ((ta : Int) != tb) = true := by rw [bne_iff_ne]; omega
    go_enter Tryz.func38, Tryz.ntmps38
    go_wp2_with fail
    have L0 := fun W (h : TB w ⟨g1, natS n1, x1⟩ ⟨g2, natS n2, x2⟩ W) => h.2.1.facts.2.1
    have L1 := fun W (h : TB w ⟨g1, natS n1, x1⟩ ⟨g2, natS n2, x2⟩ W) => h.2.1.facts.2.2.1
    have L2 := fun W (h : TB w ⟨g1, natS n1, x1⟩ ⟨g2, natS n2, x2⟩ W) => h.2.1.facts.2.2.2.1
    have L3 := fun W (h : TB w ⟨g1, natS n1, x1⟩ ⟨g2, natS n2, x2⟩ W) => h.2.2.facts.2.1
    have L4 := fun W (h : TB w ⟨g1, natS n1, x1⟩ ⟨g2, natS n2, x2⟩ W) => h.2.2.facts.2.2.1
    have L5 := fun W (h : TB w ⟨g1, natS n1, x1⟩ ⟨g2, natS n2, x2⟩ W) => h.2.2.facts.2.2.2.1
    go_region_held3 (TB w ⟨g1, natS n1, x1⟩ ⟨g2, natS n2, x2⟩) (first | assumption | exact TB.step (by assumption) (by assumption) | exact TB.drew (by assumption) | exact TB.drawn (by assumption) _)
      (first
        | (go_at_call 66; with_reducible refine (SA.out _).mono ?_; rintro e w' ⟨rfl, hb7⟩)
        | (go_at_call 66; with_reducible refine (SB.out _).mono ?_; rintro e w' ⟨rfl, hb7⟩))
    rename_i hHeld
    clear T0 L0 L1 L2 L3 L4 L5
    have T0 := hHeld
    clear hHeld
    obtain ⟨p0, p1, p2, p3, p4, p5, p6⟩ := T0.2.1.facts
    obtain ⟨q0, q1, q2, q3, q4, q5, q6⟩ := T0.2.2.facts
    go_wp2_with fail
    refine (KA.out _).mono ?_
    rintro e w1 ⟨rfl, hb⟩
    replace T0 := T0.step hb
    clear hb p0 p1 p2 p3 p4 p5 p6 q0 q1 q2 q3 q4 q5 q6
    obtain ⟨p0, p1, p2, p3, p4, p5, p6⟩ := T0.2.1.facts
    obtain ⟨q0, q1, q2, q3, q4, q5, q6⟩ := T0.2.2.facts
    go_wp2_with fail
    refine (KB.out _).mono ?_
    rintro e w2 ⟨rfl, hb⟩
    replace T0 := T0.step hb
    clear hb p0 p1 p2 p3 p4 p5 p6 q0 q1 q2 q3 q4 q5 q6
    obtain ⟨p0, p1, p2, p3, p4, p5, p6⟩ := T0.2.1.facts
    obtain ⟨q0, q1, q2, q3, q4, q5, q6⟩ := T0.2.2.facts
    go_wp2_with fail
    go_ret
    exact ⟨by rw [hm.out, Int.mul_one]; rfl, T0.1⟩
  · subst h1
    go_enter Tryz.func38, Tryz.ntmps38
    go_wp2_with fail
    have L0 := fun W (h : TB w ⟨g1, natS n1, x1⟩ ⟨g2, natS n2, x2⟩ W) => h.2.1.facts.2.1
    have L1 := fun W (h : TB w ⟨g1, natS n1, x1⟩ ⟨g2, natS n2, x2⟩ W) => h.2.1.facts.2.2.1
    have L2 := fun W (h : TB w ⟨g1, natS n1, x1⟩ ⟨g2, natS n2, x2⟩ W) => h.2.1.facts.2.2.2.1
    have L3 := fun W (h : TB w ⟨g1, natS n1, x1⟩ ⟨g2, natS n2, x2⟩ W) => h.2.2.facts.2.1
    have L4 := fun W (h : TB w ⟨g1, natS n1, x1⟩ ⟨g2, natS n2, x2⟩ W) => h.2.2.facts.2.2.1
    have L5 := fun W (h : TB w ⟨g1, natS n1, x1⟩ ⟨g2, natS n2, x2⟩ W) => h.2.2.facts.2.2.2.1
    go_region_held3 (TB w ⟨g1, natS n1, x1⟩ ⟨g2, natS n2, x2⟩) (first | assumption | exact TB.step (by assumption) (by assumption) | exact TB.drew (by assumption) | exact TB.drawn (by assumption) _)
      (first
        | (go_at_call 66; with_reducible refine (SA.out _).mono ?_; rintro e w' ⟨rfl, hb7⟩)
        | (go_at_call 66; with_reducible refine (SB.out _).mono ?_; rintro e w' ⟨rfl, hb7⟩))
    rename_i hHeld
    clear T0 L0 L1 L2 L3 L4 L5
    have T0 := hHeld
    clear hHeld
    obtain ⟨p0, p1, p2, p3, p4, p5, p6⟩ := T0.2.1.facts
    obtain ⟨q0, q1, q2, q3, q4, q5, q6⟩ := T0.2.2.facts
    go_wp2_with fail
    refine (KA.out _).mono ?_
    rintro e w1 ⟨rfl, hb⟩
    replace T0 := T0.step hb
    clear hb p0 p1 p2 p3 p4 p5 p6 q0 q1 q2 q3 q4 q5 q6
    obtain ⟨p0, p1, p2, p3, p4, p5, p6⟩ := T0.2.1.facts
    obtain ⟨q0, q1, q2, q3, q4, q5, q6⟩ := T0.2.2.facts
    go_wp2_with fail
    refine (KB.out _).mono ?_
    rintro e w2 ⟨rfl, hb⟩
    replace T0 := T0.step hb
    clear hb p0 p1 p2 p3 p4 p5 p6 q0 q1 q2 q3 q4 q5 q6
    obtain ⟨p0, p1, p2, p3, p4, p5, p6⟩ := T0.2.1.facts
    obtain ⟨q0, q1, q2, q3, q4, q5, q6⟩ := T0.2.2.facts
    go_wp2_with fail
    clear p0 p1 p2 p3 p4 p5 p6 q0 q1 q2 q3 q4 q5 q6
    have L0 := fun W (h : TB w ⟨g1, natS n1, x1⟩ ⟨g2, natS n2, x2⟩ W) => h.2.1.facts.2.1
    have L1 := fun W (h : TB w ⟨g1, natS n1, x1⟩ ⟨g2, natS n2, x2⟩ W) => h.2.1.facts.2.2.1
    have L2 := fun W (h : TB w ⟨g1, natS n1, x1⟩ ⟨g2, natS n2, x2⟩ W) => h.2.1.facts.2.2.2.1
    have L3 := fun W (h : TB w ⟨g1, natS n1, x1⟩ ⟨g2, natS n2, x2⟩ W) => h.2.2.facts.2.1
    have L4 := fun W (h : TB w ⟨g1, natS n1, x1⟩ ⟨g2, natS n2, x2⟩ W) => h.2.2.facts.2.2.1
    have L5 := fun W (h : TB w ⟨g1, natS n1, x1⟩ ⟨g2, natS n2, x2⟩ W) => h.2.2.facts.2.2.2.1
    go_region_held3 (TB w ⟨g1, natS n1, x1⟩ ⟨g2, natS n2, x2⟩) (first | assumption | exact TB.step (by assumption) (by assumption) | exact TB.drew (by assumption) | exact TB.drawn (by assumption) _)
      (first
        | (go_at_call 68; (with_reducible refine (KO.out _).mono ?_); rintro e wa ⟨v1, rfl, hown1, hb7⟩)
        | (go_at_call 68; (with_reducible refine (KP.out _).mono ?_); rintro e wb ⟨v2, rfl, hown2, hb8⟩))
    rename_i hHeld
    clear T0 L0 L1 L2 L3 L4 L5
    have T0 := hHeld
    clear hHeld
    have hown1 := hown1.whole hb8
    clear hb7 hb8
    obtain ⟨A1, c1, rfl, hc1⟩ := hown1.len
    obtain ⟨A2, c2, rfl, hc2⟩ := hown2.len
    rw [dl_length] at hown1 hown2 ⊢
    rw [dl_length]
    have KS := Lib.hid (rShifted3_c n1 j _ A1 c1 wb (by omega) (by omega) hown1)
    have HO := Lib.hid hown2
    clear hown1 hown2 hc1 hc2
    obtain ⟨p0, p1, p2, p3, p4, p5, p6⟩ := T0.2.1.facts
    obtain ⟨q0, q1, q2, q3, q4, q5, q6⟩ := T0.2.2.facts
    go_wp2_with fail
    refine KS.out.mono ?_
    rintro e w5 ⟨A3, c3, rfl, hown3, hb⟩
    replace T0 := T0.step hb
    have HO2 := Lib.hid (HO.out.whole hb)
    clear hb
    have hfz : nd 256 (n1 * 2 ^ j) ≤ 16384 := hm.out.1
    have KC := Lib.hid (rCmp3_c (n1 * 2 ^ j) n2 _ _ A3 A2 c3 c2 w5 (by omega) (by omega) hown3 HO2.out)
    rw [← hm.out.2] at KC
    clear hfz hown3
    generalize n1 * 2 ^ j = z at *
    go_wp2_with fail
    refine KC.out.mono ?_
    rintro e w6 ⟨rfl, nn, rfl⟩
    go_wp2_with fail
    go_ret
    refine ⟨?_, (T0.drawn nn).1⟩
    show Ending.returned (.int .i64 (wrap64 (s * mg))) = _
    rw [HSM.out]
  · subst h1
    go_enter Tryz.func38, Tryz.ntmps38
    go_wp2_with fail
    have L0 := fun W (h : TB w ⟨g1, natS n1, x1⟩ ⟨g2, natS n2, x2⟩ W) => h.2.1.facts.2.1
    have L1 := fun W (h : TB w ⟨g1, natS n1, x1⟩ ⟨g2, natS n2, x2⟩ W) => h.2.1.facts.2.2.1
    have L2 := fun W (h : TB w ⟨g1, natS n1, x1⟩ ⟨g2, natS n2, x2⟩ W) => h.2.1.facts.2.2.2.1
    have L3 := fun W (h : TB w ⟨g1, natS n1, x1⟩ ⟨g2, natS n2, x2⟩ W) => h.2.2.facts.2.1
    have L4 := fun W (h : TB w ⟨g1, natS n1, x1⟩ ⟨g2, natS n2, x2⟩ W) => h.2.2.facts.2.2.1
    have L5 := fun W (h : TB w ⟨g1, natS n1, x1⟩ ⟨g2, natS n2, x2⟩ W) => h.2.2.facts.2.2.2.1
    go_region_held3 (TB w ⟨g1, natS n1, x1⟩ ⟨g2, natS n2, x2⟩) (first | assumption | exact TB.step (by assumption) (by assumption) | exact TB.drew (by assumption) | exact TB.drawn (by assumption) _)
      (first
        | (go_at_call 66; with_reducible refine (SA.out _).mono ?_; rintro e w' ⟨rfl, hb7⟩)
        | (go_at_call 66; with_reducible refine (SB.out _).mono ?_; rintro e w' ⟨rfl, hb7⟩))
    rename_i hHeld
    clear T0 L0 L1 L2 L3 L4 L5
    have T0 := hHeld
    clear hHeld
    obtain ⟨p0, p1, p2, p3, p4, p5, p6⟩ := T0.2.1.facts
    obtain ⟨q0, q1, q2, q3, q4, q5, q6⟩ := T0.2.2.facts
    go_wp2_with fail
    refine (KA.out _).mono ?_
    rintro e w1 ⟨rfl, hb⟩
    replace T0 := T0.step hb
    clear hb p0 p1 p2 p3 p4 p5 p6 q0 q1 q2 q3 q4 q5 q6
    obtain ⟨p0, p1, p2, p3, p4, p5, p6⟩ := T0.2.1.facts
    obtain ⟨q0, q1, q2, q3, q4, q5, q6⟩ := T0.2.2.facts
    go_wp2_with fail
    refine (KB.out _).mono ?_
    rintro e w2 ⟨rfl, hb⟩
    replace T0 := T0.step hb
    clear hb p0 p1 p2 p3 p4 p5 p6 q0 q1 q2 q3 q4 q5 q6
    obtain ⟨p0, p1, p2, p3, p4, p5, p6⟩ := T0.2.1.facts
    obtain ⟨q0, q1, q2, q3, q4, q5, q6⟩ := T0.2.2.facts
    go_wp2_with fail
    clear p0 p1 p2 p3 p4 p5 p6 q0 q1 q2 q3 q4 q5 q6
    have L0 := fun W (h : TB w ⟨g1, natS n1, x1⟩ ⟨g2, natS n2, x2⟩ W) => h.2.1.facts.2.1
    have L1 := fun W (h : TB w ⟨g1, natS n1, x1⟩ ⟨g2, natS n2, x2⟩ W) => h.2.1.facts.2.2.1
    have L2 := fun W (h : TB w ⟨g1, natS n1, x1⟩ ⟨g2, natS n2, x2⟩ W) => h.2.1.facts.2.2.2.1
    have L3 := fun W (h : TB w ⟨g1, natS n1, x1⟩ ⟨g2, natS n2, x2⟩ W) => h.2.2.facts.2.1
    have L4 := fun W (h : TB w ⟨g1, natS n1, x1⟩ ⟨g2, natS n2, x2⟩ W) => h.2.2.facts.2.2.1
    have L5 := fun W (h : TB w ⟨g1, natS n1, x1⟩ ⟨g2, natS n2, x2⟩ W) => h.2.2.facts.2.2.2.1
    go_region_held3 (TB w ⟨g1, natS n1, x1⟩ ⟨g2, natS n2, x2⟩) (first | assumption | exact TB.step (by assumption) (by assumption) | exact TB.drew (by assumption) | exact TB.drawn (by assumption) _)
      (first
        | (go_at_call 68; (with_reducible refine (KO.out _).mono ?_); rintro e wa ⟨v1, rfl, hown1, hb7⟩)
        | (go_at_call 68; (with_reducible refine (KP.out _).mono ?_); rintro e wb ⟨v2, rfl, hown2, hb8⟩))
    rename_i hHeld
    clear T0 L0 L1 L2 L3 L4 L5
    have T0 := hHeld
    clear hHeld
    have hown1 := hown1.whole hb8
    clear hb7 hb8
    obtain ⟨A1, c1, rfl, hc1⟩ := hown1.len
    obtain ⟨A2, c2, rfl, hc2⟩ := hown2.len
    rw [dl_length] at hown1 hown2 ⊢
    rw [dl_length]
    have KS := Lib.hid (rShifted3_c n2 j _ A2 c2 wb (by omega) (by omega) hown2)
    have HO := Lib.hid hown1
    clear hown1 hown2 hc1 hc2
    obtain ⟨p0, p1, p2, p3, p4, p5, p6⟩ := T0.2.1.facts
    obtain ⟨q0, q1, q2, q3, q4, q5, q6⟩ := T0.2.2.facts
    go_wp2_with fail
    refine KS.out.mono ?_
    rintro e w5 ⟨A3, c3, rfl, hown3, hb⟩
    replace T0 := T0.step hb
    have HO2 := Lib.hid (HO.out.whole hb)
    clear hb
    have hfz : nd 256 (n2 * 2 ^ j) ≤ 16384 := hm.out.1
    have KC := Lib.hid (rCmp3_c n1 (n2 * 2 ^ j) _ _ A1 A3 c1 c3 w5 (by omega) (by omega) HO2.out hown3)
    rw [← hm.out.2] at KC
    clear hfz hown3
    generalize n2 * 2 ^ j = z at *
    go_wp2_with fail
    refine KC.out.mono ?_
    rintro e w6 ⟨rfl, nn, rfl⟩
    go_wp2_with fail
    go_ret
    refine ⟨?_, (T0.drawn nn).1⟩
    show Ending.returned (.int .i64 (wrap64 (s * mg))) = _
    rw [HSM.out]
theorem rCmpD3_c (a b : Dy) (w : World) (ha : a.Ok) (hb : b.Ok) :
    Calls Tryz.prog 38 #[.agg #[.bool a.g, .string (natS a.n), .int .i64 a.x], .agg #[.bool b.g, .string (natS b.n), .int .i64 b.x]] w fun e w' => e = .returned (.int .i64 (cmpD a b)) ∧ Below w.heap.size w w' := by
  rcases Int.lt_trichotomy (sgD a) (sgD b) with h | h | h
  · rw [cmpD_lt h]; exact rCmpD3_sgn a b w ha hb _ (Or.inl ⟨h, rfl⟩)
  · by_cases h0 : sgD a = 0
    · rw [cmpD_zero h h0]; exact rCmpD3_sgn a b w ha hb _ (Or.inr (Or.inr ⟨h0, h ▸ h0, rfl⟩))
    · rw [cmpD_eq h h0]; exact rCmpD3_num a b w (Dy.num_of ha h0) (Dy.num_of hb (h ▸ h0)) h
  · rw [cmpD_gt h]; exact rCmpD3_sgn a b w ha hb _ (Or.inr (Or.inl ⟨by omega, h, rfl⟩))
end Go.Proofs.YtjalpocjgpgcfaaGreatDoor
set_option linter.unusedSimpArgs false
set_option linter.unusedVariables false
namespace Go.Proofs.YtjalpocjgpgcfaaGreatDoor
open Go Go.RowKit Nt

theorem fo_gt {x y : Nat} (hx : ¬ Bt.Ff.isn x) (hy : ¬ Bt.Ff.isn y) : (FloatKind.f64.format.order x y == some Ordering.gt) = decide (Bt.Ff.srung y < Bt.Ff.srung x) := by
  rw [show FloatKind.f64.format.order x y = _ from Bt.Ff.order_eq x y, if_neg (fun c => c.elim hx hy)]
  simp only [compare, compareOfLessAndEq]
  rw [Bool.eq_iff_iff, beq_iff_eq, decide_eq_true_iff]
  by_cases h1 : Bt.Ff.srung x < Bt.Ff.srung y
  · rw [if_pos h1]; constructor
    · intro h; cases h
    · intro h; omega
  · rw [if_neg h1]
    by_cases h2 : Bt.Ff.srung x = Bt.Ff.srung y
    · rw [if_pos h2]; constructor
      · intro h; cases h
      · intro h; omega
    · rw [if_neg h2]; exact ⟨fun _ => by omega, fun _ => rfl⟩
theorem fo_lt {x y : Nat} (hx : ¬ Bt.Ff.isn x) (hy : ¬ Bt.Ff.isn y) : (FloatKind.f64.format.order x y == some Ordering.lt) = decide (Bt.Ff.srung x < Bt.Ff.srung y) := by
  rw [show FloatKind.f64.format.order x y = _ from Bt.Ff.order_eq x y, if_neg (fun c => c.elim hx hy)]
  simp only [compare, compareOfLessAndEq]
  rw [Bool.eq_iff_iff, beq_iff_eq, decide_eq_true_iff]
  by_cases h1 : Bt.Ff.srung x < Bt.Ff.srung y
  · rw [if_pos h1]; exact ⟨fun _ => h1, fun _ => rfl⟩
  · rw [if_neg h1]
    by_cases h2 : Bt.Ff.srung x = Bt.Ff.srung y
    · rw [if_pos h2]; constructor
      · intro h; cases h
      · intro h; omega
    · rw [if_neg h2]; constructor
      · intro h; cases h
      · intro h; omega
theorem sr_max : Bt.Ff.srung 9218868437227405311 = 9218868437227405311 := by decide
theorem sr_min : Bt.Ff.srung 18442240474082181119 = -9218868437227405311 := by decide
theorem sr_zero : Bt.Ff.srung 0 = 0 := by decide
theorem in_max : ¬ Bt.Ff.isn 9218868437227405311 := by decide
theorem in_min : ¬ Bt.Ff.isn 18442240474082181119 := by decide
theorem in_zero : ¬ Bt.Ff.isn 0 := by decide
/-- A float is no number, an infinity, or finite: what Go's comparisons say of it. -/
theorem fl_kinds {x : Nat} (hx : x < 18446744073709551616) :
    (Bt.Ff.isn x ∧ (FloatKind.f64.format.order x x != some Ordering.eq) = true) ∨
    (¬ Bt.Ff.isn x ∧ Bt.finB x = false ∧ (FloatKind.f64.format.order x x != some Ordering.eq) = false ∧ (FloatKind.f64.format.order x 9218868437227405311 == some Ordering.gt) = true ∧ (FloatKind.f64.format.order x 0 == some Ordering.gt) = true ∧ Bt.Ff.sgn x = false) ∨
    (¬ Bt.Ff.isn x ∧ Bt.finB x = false ∧ (FloatKind.f64.format.order x x != some Ordering.eq) = false ∧ (FloatKind.f64.format.order x 9218868437227405311 == some Ordering.gt) = false ∧ (FloatKind.f64.format.order x 18442240474082181119 == some Ordering.lt) = true ∧ (FloatKind.f64.format.order x 0 == some Ordering.gt) = false ∧ Bt.Ff.sgn x = true) ∨
    (Bt.finB x = true ∧ (FloatKind.f64.format.order x x != some Ordering.eq) = false ∧ (FloatKind.f64.format.order x 9218868437227405311 == some Ordering.gt) = false ∧ (FloatKind.f64.format.order x 18442240474082181119 == some Ordering.lt) = false) := by
  have hr : Bt.Ff.rung x < 9223372036854775808 := by unfold Bt.Ff.rung; omega
  by_cases hn : Bt.Ff.isn x
  · exact Or.inl ⟨hn, by rw [Bt.isn_ne, decide_eq_true hn]⟩
  · have hnn : (FloatKind.f64.format.order x x != some Ordering.eq) = false := by rw [Bt.isn_ne, decide_eq_false hn]
    have hl : Bt.Ff.rung x ≤ 9218868437227405312 := by unfold Bt.Ff.isn at hn; omega
    rw [fo_gt hn in_max, fo_lt hn in_min, fo_gt hn in_zero, sr_max, sr_min, sr_zero]
    by_cases hf : Bt.finB x = true
    · have hfr := (Bt.finB_true x).1 hf
      refine Or.inr (Or.inr (Or.inr ⟨hf, hnn, decide_eq_false ?_, decide_eq_false ?_⟩))
      · unfold Bt.Ff.srung; split <;> omega
      · unfold Bt.Ff.srung; split <;> omega
    · have hf' : Bt.finB x = false := by simpa using hf
      have hfr := (Bt.finB_false x).1 hf'
      cases hs : Bt.Ff.sgn x
      · refine Or.inr (Or.inl ⟨hn, hf', hnn, decide_eq_true ?_, decide_eq_true ?_, rfl⟩)
        · unfold Bt.Ff.srung; rw [hs, if_neg (by decide)]; omega
        · unfold Bt.Ff.srung; rw [hs, if_neg (by decide)]; omega
      · refine Or.inr (Or.inr (Or.inl ⟨hn, hf', hnn, decide_eq_false ?_, decide_eq_true ?_, decide_eq_false ?_, rfl⟩))
        · unfold Bt.Ff.srung; rw [hs, if_pos rfl]; omega
        · unfold Bt.Ff.srung; rw [hs, if_pos rfl]; omega
        · unfold Bt.Ff.srung; rw [hs, if_pos rfl]; omega
/-- From w on, with one Dyad in a box. -/
def OB (w : World) (a : Dt) (W : World) : Prop := Below w.heap.size w W ∧ Box3 W w.heap.size (.bool a.g) (.string a.s) (.int .i64 a.x)
theorem OB.start (w : World) (a : Dt) : OB w a (w.alloc (.cells #[.bool a.g, .string a.s, .int .i64 a.x] 24)) := ⟨(Below.refl _ _).alloc (Nat.le_refl _) _, Box3.new w _ _ _⟩
theorem OB.step {w : World} {a : Dt} {W W' : World} (h : OB w a W) (hb : Below W.heap.size W W') : OB w a W' := ⟨below_then h.1 hb, h.2.step hb⟩
theorem OB.more {w : World} {a : Dt} {W : World} (h : OB w a W) (o : Obj) : OB w a (W.alloc o) := h.step ((Below.refl _ _).alloc (Nat.le_refl _) _)
/-- A Dyad against a float. -/
@[irreducible] def agR (d : Dy) (x : Nat) : Int := if Bt.Ff.isn x then 0 else if Bt.finB x = true then cmpD d (mkD (Bt.Ff.sgn x) (Bt.pm x) (Bt.pex x)) else if Bt.Ff.sgn x then 1 else -1
@[irreducible] def agE (x : Nat) : Int := if Bt.Ff.isn x then 5 else 0
theorem fin_isn {x : Nat} (h : Bt.finB x = true) : ¬ Bt.Ff.isn x := by have := (Bt.finB_true x).1 h; unfold Bt.Ff.isn; omega
theorem agR_nan {d : Dy} {x : Nat} (h : Bt.Ff.isn x) : agR d x = 0 ∧ agE x = 5 := by unfold agR agE; rw [if_pos h, if_pos h]; exact ⟨rfl, rfl⟩
theorem agR_inf {d : Dy} {x : Nat} (h : ¬ Bt.Ff.isn x) (hf : Bt.finB x = false) (b : Bool) (hs : Bt.Ff.sgn x = b) : agR d x = (if b = true then 1 else -1) ∧ agE x = 0 := by
  unfold agR agE; rw [if_neg h, if_neg h, hf, hs, if_neg (by decide)]; exact ⟨rfl, rfl⟩
theorem agR_fin {d : Dy} {x : Nat} (hf : Bt.finB x = true) : agR d x = cmpD d (mkD (Bt.Ff.sgn x) (Bt.pm x) (Bt.pex x)) ∧ agE x = 0 := by
  unfold agR agE; rw [if_neg (fin_isn hf), if_neg (fin_isn hf), if_pos hf]; exact ⟨rfl, rfl⟩
end Go.Proofs.YtjalpocjgpgcfaaGreatDoor
set_option linter.unusedSimpArgs false
set_option linter.unusedVariables false
namespace Go.Proofs.YtjalpocjgpgcfaaGreatDoor
open Go Go.RowKit Nt

theorem rMayT_no (t : Dt) (w : World) (hs : t.s.size ≤ 9223372036854775807) (h : ¬ t.Ok) : Calls Tryz.prog 28 #[.agg #[.bool t.g, .string t.s, .int .i64 t.x]] w fun e w' => e = .returned (.bool false) ∧ Below w.heap.size w w' := rMay3_bad t.g t.s t.x w hs h
theorem rMayT_ok (d : Dy) (w : World) (h : d.Ok) : Calls Tryz.prog 28 #[.agg #[.bool d.g, .string (natS d.n), .int .i64 d.x]] w fun e w' => e = .returned (.bool true) ∧ Below w.heap.size w w' := by
  rcases h with rfl | h
  · show Calls _ _ #[.agg #[.bool false, .string (natS 0), .int .i64 0]] _ _
    rw [natS_zero]; exact rMay3_zero w
  · exact rMay3_num d.g d.n d.x w h.1 h.2.1 h.2.2.1 h.2.2.2
theorem Dt.dy {t : Dt} (h : t.Ok) : ∃ d : Dy, d.Ok ∧ t = d.t := by
  obtain ⟨d, h1, h2, h3, h4⟩ := DOk_dy h
  exact ⟨d, h1, by obtain ⟨g, s, x⟩ := t; simp only at h2 h3 h4; rw [h2, h3, h4]; rfl⟩
end Go.Proofs.YtjalpocjgpgcfaaGreatDoor
