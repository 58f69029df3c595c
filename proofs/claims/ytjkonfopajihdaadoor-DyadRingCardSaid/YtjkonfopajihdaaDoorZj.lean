/- Texts put together: D10 D11 D12 D13. -/
import Derived.Test.YtjkonfopajihdaaDoorZi
import Derived.BigQuiet
import Derived.Test.YtjkonfopajihdaaDoorZa
import Derived.Deep.RegionLaw
set_option linter.unusedSimpArgs false
set_option linter.unusedVariables false
namespace Go.Proofs.YtjkonfopajihdaaDoor
open Go Go.RowKit Nt

/-- A number of any length that a call made: its digits, no 0 at the end. -/
def BigP (z : Nat) (w : World) (e : Ending) (w' : World) : Prop := ∃ A c, e = .returned (.slice A (nd 256 z) c) ∧ Own w' w.heap.size 3 .i64 (.slice A (nd 256 z) c) (dl 256 z (nd 256 z)) ∧ Below w.heap.size w w'
theorem zmade (q : Nat) : madeCells #[.int .i64 0] q = fcells .i64 (dgt 256 0) q := by
  rw [fcells_made]
  exact fcells_congr fun j _ => by rw [dgt_def, Nat.zero_div]
theorem fcells_list3 (k : IntKind) (f : Nat → Nat) (L : Nat) : (fcells k f L).toList = (((List.range L).map f).map (fun (x : Nat) => Value.int k (x : Int))) := by
  unfold fcells; rw [List.map_map]; rfl
theorem Own.of_zero {w : World} {B g : Nat} {T : TypeId} {L : Nat} (h : Blk w g T (fcells .i64 (dgt 256 0) L)) (hB : B ≤ g) (hL : L ≤ 1000000000) :
    Own w B T .i64 (.slice (some ⟨g, 0, none⟩) L L) (dl 256 0 L) := by
  unfold Own
  rw [dl_length]
  refine ⟨by simp [dl_length], Or.inr ⟨g, L, fcells .i64 (dgt 256 0) L, rfl, hB, h, Nat.le_refl _, by unfold maxLen; omega, by rw [fcells_size, Nat.mul_one], ?_⟩⟩
  rw [fcells_list3, Nat.mul_one]
  exact List.take_of_length_le (by simp)
theorem low_zero (q z : Nat) : dl 256 (256 ^ q * z) q = dl 256 0 q := dl_congr fun i hi => by
  rw [← dgt_mod (256 ^ q * z) hi, Nat.mul_mod_right]
theorem low_skip (q z i : Nat) : dgt 256 (256 ^ q * z) (q + i) = dgt 256 z i := by
  have := dgt_skip (b := 256) (256 ^ q * z) q i
  rw [Nat.mul_div_cancel_left _ (Nat.pow_pos (by omega))] at this
  rw [this, Nat.add_comm]
theorem pow_split (b : Nat) : 2 ^ b = 256 ^ (b / 8) * 2 ^ (b % 8) := by
  rw [show (256 : Nat) = 2 ^ 8 from rfl, ← Nat.pow_mul, ← Nat.pow_add]
  congr 1; omega
theorem wr_sum (m D : Nat) (h1 : m < 256) (h2 : D ≤ 32640) : wrap64 ((m : Int) + wrap64 (D : Int)) = ((m + D : Nat) : Int) := by
  rw [IntWalk.wrap64_in (D : Int) (by omega), ← Int.natCast_add, IntWalk.wrap64_in _ (by omega)]
theorem wr_pow {d s r : Nat} (hs : 2 ^ r = s) : (d : Int) * 2 ^ r = ((d * s : Nat) : Int) := by rw [int_pow2, hs, Int.natCast_mul]
theorem wr_all {d s r m D : Nat} (hs : 2 ^ r = s) (hD : D = d * s) (h1 : m < 256) (h2 : D ≤ 32640) : Hid (wrap64 ((m : Int) + wrap64 ((d : Int) * 2 ^ r)) = ((m + D : Nat) : Int)) := Lib.hid (by rw [wr_pow hs, ← hD]; exact wr_sum m D h1 h2)
theorem shf_nat {n s k d m x y : Nat} (hs128 : s ≤ 128) (hd : d = dgt 256 n k) (hm : m = mca 256 n s 0 k) (hx : x = dgt 256 (n * s) k) (hy : y = mca 256 n s 0 (k + 1)) :
    ∃ D, D = d * s ∧ D ≤ 32640 ∧ (m + D) % 256 = x ∧ (m + D) / 256 = y ∧ d < 256 ∧ m < 256 ∧ x < 256 ∧ y < 256 := by
  have h1 := dgt_lt (b := 256) (by omega) n k
  have h2 := mca_lt (b := 256) (by omega) n s 0 k (by omega) (by omega)
  have h3 := dgt_mca (b := 256) (by omega) n s 0 k
  have h4 := mca_succ (b := 256) (by omega) n s 0 k
  have h5 := dgt_lt (b := 256) (by omega) (n * s) k
  have h6 := mca_lt (b := 256) (by omega) n s 0 (k + 1) (by omega) (by omega)
  rw [Nat.add_zero, ← hd, ← hm, ← hx, Nat.add_comm] at h3
  rw [← hd, ← hm, ← hy, Nat.add_comm] at h4
  rw [← hd] at h1
  rw [← hm] at h2
  rw [← hx] at h5
  rw [← hy] at h6
  have hb : d * s ≤ 255 * 128 := Nat.mul_le_mul (by omega) hs128
  exact ⟨d * s, rfl, hb, h3.symm, h4.symm, h1, h2, h5, h6⟩
theorem mod_int {S x : Nat} (h : S % 256 = x) : (S : Int).tmod 256 = (x : Int) := by rw [Int.tmod_eq_emod_of_nonneg (by omega)]; omega
theorem div_int {S y : Nat} (h : S / 256 = y) : (S : Int).tdiv 256 = (y : Int) := by rw [Int.tdiv_eq_ediv_of_nonneg (by omega)]; omega
theorem shf_num {n s r k d m x y : Nat} (hs : 2 ^ r = s) (hs128 : s ≤ 128) (hd : d = dgt 256 n k) (hm : m = mca 256 n s 0 k) (hx : x = dgt 256 (n * s) k) (hy : y = mca 256 n s 0 (k + 1)) :
    ∃ S : Nat, Hid (wrap64 ((m : Int) + wrap64 ((d : Int) * 2 ^ r)) = (S : Int)) ∧ (S : Int).tmod 256 = (x : Int) ∧ (S : Int).tdiv 256 = (y : Int) ∧ S ≤ 40000 ∧ d < 256 ∧ m < 256 ∧ x < 256 ∧ y < 256 := by
  obtain ⟨D, hD, hDb, h1, h2, h3, h4, h5, h6⟩ := shf_nat hs128 hd hm hx hy
  have hS : m + D ≤ 40000 := by clear hs hD h1 h2; omega
  have H := wr_all hs hD h4 hDb
  clear hs hD
  obtain ⟨S, hSe⟩ : ∃ S, S = m + D := ⟨_, rfl⟩
  rw [← hSe] at hS H h1 h2
  exact ⟨S, H, mod_int h1, div_int h2, hS, h3, h4, h5, h6⟩
theorem shf_last {n s L m : Nat} (hs128 : s ≤ 128) (hL : nd 256 n = L) (hm : m = mca 256 n s 0 L) (q : Nat) :
    m = dgt 256 (256 ^ q * (n * s)) (q + L) ∧ nd 256 (256 ^ q * (n * s)) ≤ q + L + 1 ∧ m < 256 := by
  have hn : n < 256 ^ L := by rw [← hL]; exact lt_nd (by omega)
  have h := mca_last (b := 256) (by omega) n s 0 L hn (by omega) (by omega)
  rw [Nat.add_zero] at h
  refine ⟨by rw [low_skip, hm, h], nd_le (by omega) ?_, by rw [hm, h]; exact dgt_lt (by omega) _ _⟩
  rw [Nat.add_assoc, Nat.pow_add]
  refine Nat.mul_lt_mul_of_pos_left ?_ (Nat.pow_pos (by omega))
  rw [Nat.pow_succ]
  exact Nat.mul_lt_mul'' hn (by omega)
set_option maxRecDepth 100000 in
set_option maxHeartbeats 1000000 in
theorem rShifted3_c (n b B : Nat) (A : Option Addr) (c : Nat) (w : World) (hn : nd 256 n ≤ 1000000) (hb0 : b ≤ 8000000) (h : Own w B 3 .i64 (.slice A (nd 256 n) c) (dl 256 n (nd 256 n))) :
    Calls Tryd.prog 77 #[.slice A (nd 256 n) c, .int .i64 (b : Nat)] w (BigP (n * 2 ^ b) w) := by
  by_cases h0 : n = 0
  · subst h0
    rw [nd_zero] at h ⊢
    have hz : nd 256 (0 * 2 ^ b) = 0 := by rw [Nat.zero_mul, nd_zero]
    have HP : Hid (Own w w.heap.size 3 .i64 (.slice none (nd 256 (0 * 2 ^ b)) 0) (dl 256 (0 * 2 ^ b) (nd 256 (0 * 2 ^ b)))) := Lib.hid (by rw [hz]; exact Own.nil _ _ _ _)
    have HZ := Lib.hid hz
    clear h hz
    go_enter Tryd.func77, Tryd.ntmps77
    go_wp2
    go_ret
    exact ⟨none, 0, by rw [HZ.out]; try rfl, HP.out, Below.refl _ _⟩
  · obtain ⟨i0, hi0, hz0, hj1, hj2⟩ := info_parts (P := Tryd.prog) (e := 3) (z := .int .i64 0) (size := 1) (bytes := 8) (by kernel_rfl)
    obtain ⟨L, hL⟩ : ∃ L, nd 256 n = L := ⟨_, rfl⟩
    have hL0 : L ≠ 0 := fun c => h0 ((nd_eq_zero (by omega)).1 (hL.trans c))
    rw [hL] at h hn ⊢
    obtain ⟨q, hq⟩ : ∃ q, b / 8 = q := ⟨_, rfl⟩
    obtain ⟨r, hr⟩ : ∃ r, b % 8 = r := ⟨_, rfl⟩
    obtain ⟨s, hs⟩ : ∃ s, 2 ^ r = s := ⟨_, rfl⟩
    have HE := Lib.hid (show n * 2 ^ b = 256 ^ q * (n * s) by rw [pow_split, hq, hr, hs]; rw [Nat.mul_left_comm])
    have hr8 : r < 8 := by omega
    have hs128 : s ≤ 128 := by rw [← hs]; exact Nat.pow_le_pow_right (n := 2) (by omega) (show r ≤ 7 by omega)
    have HLn := Lib.hid hL
    have HS := Lib.hid hs
    have HS128 := Lib.hid hs128
    have hsrc : Hid (∀ wr, Below w.heap.size w wr → ∀ j, j < L → ∃ g, A = some ⟨g, 0, none⟩ ∧ wr.cell? ⟨g, j, none⟩ = some (.int .i64 (dgt 256 n j : Nat))) := Lib.hid fun wr hbw j hj => by
      obtain ⟨g, cap, e, _, hg, hc, _⟩ := h.cell (j := j) (by rw [dl_length]; exact hj)
      injection e with e1 e2 e3
      rw [dlget3] at hc
      exact ⟨g, e1, (hbw.cell (p := ⟨g, j, none⟩) hg).trans hc⟩
    have hqI : (b : Int) / 8 = (q : Int) := by omega
    have hqt : (b : Int).tdiv 8 = (q : Int) := by rw [Int.tdiv_eq_ediv_of_nonneg (by omega)]; omega
    have hrI : (b : Int) % 8 = (r : Int) := by omega
    have hqb : q ≤ 1000000 := by omega
    clear h hL h0 hs hq hr hs128
    go_enter Tryd.func77, Tryd.ntmps77
    go_wp2_with (at_make; go_loud (refine wpList_make_zero _ rfl _ _ _ rfl 3 i0 _ Tryd.underlying78 hi0 hz0 hj1 .i64 .i64 _ _ q rfl rfl (by omega) (by omega) (by rw [hj2]; omega) (by unfold maxLen; omega) ?_))
    rw [zmade]
    have HO0 : Hid (Own (w.alloc (.cells (fcells .i64 (dgt 256 0) q) 3)) w.heap.size 3 .i64 (.slice (some ⟨w.heap.size, 0, none⟩) q q) (dl 256 (256 ^ q * (n * s)) (q + 0))) := Lib.hid (by
      rw [Nat.add_zero, low_zero]; exact Own.of_zero (Blk.new w 3 _) (Nat.le_refl _) (by omega))
    have hbl : Below w.heap.size w (w.alloc (.cells (fcells .i64 (dgt 256 0) q) 3)) := (Below.refl _ _).alloc (Nat.le_refl _) _
    generalize w.alloc (.cells (fcells .i64 (dgt 256 0) q) 3) = w1 at *
    go_loopw [5, 6, 7] (fun v m i wr => ∃ k mm : Nat, k ≤ L ∧ i = .int .i64 k ∧ m = .int .i64 mm ∧ Hid (mm = mca 256 n s 0 k) ∧ Hid (Own wr w.heap.size 3 .i64 v (dl 256 (256 ^ q * (n * s)) (q + k))) ∧ Below w.heap.size w wr) (fun _ _ i _ => L - (intOf i).toNat)
    case atStart => exact ⟨0, 0, Nat.zero_le _, rfl, rfl, Lib.hid (by rw [mca_zero]), HO0, hbl⟩
    case round =>
      obtain ⟨k, m, hk, rfl, rfl, hm, hown, hb⟩ := hrel
      by_cases hlt : k < L
      · obtain ⟨g, rfl, hc⟩ := hsrc.out wr hb k hlt
        obtain ⟨d, hd⟩ : ∃ d, d = dgt 256 n k := ⟨_, rfl⟩
        obtain ⟨x, hx⟩ : ∃ x, x = dgt 256 (n * s) k := ⟨_, rfl⟩
        obtain ⟨y, hy⟩ : ∃ y, y = mca 256 n s 0 (k + 1) := ⟨_, rfl⟩
        obtain ⟨S, HSS, htt, htd2, hSb, hd8, hm8, hx8, hy8⟩ := shf_num HS.out HS128.out hd hm.out hx hy
        rw [← hd] at hc
        have HX := Lib.hid (hx.trans (low_skip q (n * s) k).symm)
        have HY := Lib.hid hy
        have hlen : Hid ((dl 256 (256 ^ q * (n * s)) (q + k)).length + 1 ≤ 17592186044416) := Lib.hid (by rw [dl_length]; omega)
        clear hd hx hy
        go_wp2_with (at_builtin; simp only [HSS.out, htt]; go_loud (refine wpList_app1 wr rfl (.tmp 29) (.tmp 32) _ rfl w.heap.size 3 3 i0 .i64 8 Tryd.underlying78 hi0 hz0 hj1 hj2 (by omega) _ (dl 256 (256 ^ q * (n * s)) (q + k)) x rfl rfl hown.out hlen.out hb.size ?_); intro v5 w5 hown5 hb5 hfr5 hnw5)
        rw [HX.out, ← dl_succ] at hown5
        have HO5 := Lib.hid hown5
        clear hown5 hfr5 hnw5
        go_roundw
        case rel => exact ⟨k + 1, y, by omega, by go_num, rfl, HY, HO5, hb.trans hb5⟩
        case measure => simp [intOf]; omega
      · obtain rfl : k = L := by omega
        obtain ⟨hm2, hnd, hm8⟩ := shf_last HS128.out HLn.out hm.out q
        have HM2 := Lib.hid hm2
        have HND := Lib.hid hnd
        have hlen : Hid ((dl 256 (256 ^ q * (n * s)) (q + k)).length + 1 ≤ 17592186044416) := Lib.hid (by rw [dl_length]; omega)
        clear hm2 hnd hm hk hlt
        go_wp2_with (at_builtin; go_loud (refine wpList_app1 wr rfl (.tmp 36) (.tmp 38) _ rfl w.heap.size 3 3 i0 .i64 8 Tryd.underlying78 hi0 hz0 hj1 hj2 (by omega) _ (dl 256 (256 ^ q * (n * s)) (q + k)) m rfl rfl hown.out hlen.out hb.size ?_); intro v5 w5 hown5 hb5 hfr5 hnw5)
        rw [HM2.out, ← dl_succ] at hown5
        obtain ⟨A5, c5, rfl, hc5⟩ := hown5.len
        rw [dl_length] at hown5 ⊢
        have KC := Lib.hid (rCut3_c (256 ^ q * (n * s)) (q + k + 1) _ A5 c5 w5 HND.out (by omega) hown5)
        have HO5 := Lib.hid hown5
        clear hown5 hfr5 hnw5 hc5
        go_wp2_with fail
        refine KC.out.mono ?_
        rintro e w6 ⟨rfl, rfl⟩
        go_wp2_with fail
        go_ret
        rw [HE.out]
        exact ⟨_, _, rfl, HO5.out.cut HND.out, hb.trans hb5⟩
end Go.Proofs.YtjkonfopajihdaaDoor
set_option linter.unusedSimpArgs false
set_option linter.unusedVariables false
namespace Go.Proofs.YtjkonfopajihdaaDoor
open Go Go.RowKit Nt

theorem plus_num3 {x y k q d e : Nat} (hq : q = car 256 x y k) (hd : d = dgt 256 (x + y) k) (he : e = car 256 x y (k + 1)) :
    q ≤ 1 ∧ (q + dgt 256 x k + dgt 256 y k) % 256 = d ∧ (q + dgt 256 x k + dgt 256 y k) / 256 = e ∧ dgt 256 x k < 256 ∧ dgt 256 y k < 256 ∧ d < 256 ∧ e ≤ 1 := by
  have h1 := car_le (b := 256) (by omega) x y k
  have h2 := dgt_add (b := 256) (by omega) x y k
  have h3 := car_succ (b := 256) (by omega) x y k
  have h4 := dgt_lt (b := 256) (by omega) x k
  have h5 := dgt_lt (b := 256) (by omega) y k
  have h6 := car_le (b := 256) (by omega) x y (k + 1)
  rw [← hq] at h1 h2 h3
  rw [← hd] at h2
  rw [← he] at h3 h6
  exact ⟨h1, by omega, by omega, h4, h5, by omega, h6⟩
theorem sum3_i3 {q a b d e : Nat} (h1 : (q + a + b) % 256 = d) (h2 : (q + a + b) / 256 = e) : ((q : Int) + (a : Int) + (b : Int)) % 256 = (d : Int) ∧ ((q : Int) + (a : Int) + (b : Int)).tdiv 256 = (e : Int) :=
  ⟨by omega, by rw [Int.tdiv_eq_ediv_of_nonneg (by omega)]; omega⟩
theorem plus_last {x y M q : Nat} (hx : nd 256 x ≤ M) (hy : nd 256 y ≤ M) (hq : q = car 256 x y M) : q = dgt 256 (x + y) M ∧ nd 256 (x + y) ≤ M + 1 ∧ q ≤ 1 := by
  have h1 := (lt_pow_iff (b := 256) (by omega) M x).2 hx
  have h2 := (lt_pow_iff (b := 256) (by omega) M y).2 hy
  refine ⟨hq.trans (car_last (by omega) x y M h1 h2), nd_le (by omega) ?_, by rw [hq]; exact car_le (by omega) _ _ _⟩
  rw [Nat.pow_succ]; omega
set_option maxRecDepth 100000 in
set_option maxHeartbeats 1000000 in
theorem rPlus3_c (x y B B' : Nat) (A A' : Option Addr) (c c' : Nat) (w : World) (hx : nd 256 x ≤ 1000000) (hy : nd 256 y ≤ 1000000) (h : Own w B 3 .i64 (.slice A (nd 256 x) c) (dl 256 x (nd 256 x))) (h' : Own w B' 3 .i64 (.slice A' (nd 256 y) c') (dl 256 y (nd 256 y))) :
    Calls Tryd.prog 87 #[.slice A (nd 256 x) c, .slice A' (nd 256 y) c'] w (BigP (x + y) w) := by
  obtain ⟨i0, hi0, hz0, hj1, hj2⟩ := info_parts (P := Tryd.prog) (e := 3) (z := .int .i64 0) (size := 1) (bytes := 8) (by kernel_rfl)
  obtain ⟨X, hX⟩ : ∃ X, X = nd 256 x := ⟨_, rfl⟩
  obtain ⟨Y, hY⟩ : ∃ Y, Y = nd 256 y := ⟨_, rfl⟩
  obtain ⟨M, hM1, hM2, hM3, hM4⟩ : ∃ M, X ≤ M ∧ Y ≤ M ∧ M ≤ 1000000 ∧ (M = X ∨ M = Y) := ⟨max X Y, by omega, by omega, by omega, by omega⟩
  rw [← hX] at h hx ⊢
  rw [← hY] at h' hy ⊢
  have HX := Lib.hid hX
  have HY := Lib.hid hY
  have HO1 := Lib.hid h
  have HO2 := Lib.hid h'
  have HM4 := Lib.hid hM4
  clear hX hY h h' hM4
  go_enter Tryd.func87, Tryd.ntmps87
  go_wp2_with fail
  go_loopw [5, 6, 7] (fun v m i wr => ∃ (k q : Nat), k ≤ M ∧ i = .int .i64 k ∧ m = .int .i64 q ∧ Hid (q = car 256 x y k) ∧ Hid (Own wr w.heap.size 3 .i64 v (dl 256 (x + y) k)) ∧ Below w.heap.size w wr) (fun _ _ i _ => M - (intOf i).toNat)
  case atStart => exact ⟨0, 0, by omega, rfl, rfl, Lib.hid (car_zero _ _ _).symm, Lib.hid (Own.nil _ _ _ _), Below.refl _ _⟩
  case round =>
    obtain ⟨k, q, hk, rfl, rfl, hq, hown, hb⟩ := hrel
    by_cases hlt : k < M
    · obtain ⟨d, hd⟩ : ∃ d, d = dgt 256 (x + y) k := ⟨_, rfl⟩
      obtain ⟨e, he⟩ : ∃ e, e = car 256 x y (k + 1) := ⟨_, rfl⟩
      obtain ⟨hq1, hdd, hee, ha, hbb, hd256, he1⟩ := plus_num3 hq.out hd he
      have K1 := rAt3_c x X k _ A c wr (by have := HX.out; omega) (by omega) (by omega) (HO1.out.below hb (fun g e => (HO1.out.lt g e).2))
      have K2 := rAt3_c y Y k _ A' c' wr (by have := HY.out; omega) (by omega) (by omega) (HO2.out.below hb (fun g e => (HO2.out.lt g e).2))
      generalize dgt 256 x k = a at *
      generalize dgt 256 y k = b at *
      have H1 := Lib.hid K1
      have H2 := Lib.hid K2
      have hw1 : wrap64 ((q : Int) + (a : Int)) = (q : Int) + (a : Int) := IntWalk.wrap64_in _ (by omega)
      obtain ⟨hdI, hqq⟩ := sum3_i3 hdd hee
      have hlen : Hid ((dl 256 (x + y) k).length + 1 ≤ 17592186044416) := Lib.hid (by rw [dl_length]; omega)
      have HD := Lib.hid hd
      have HE := Lib.hid he
      clear K1 K2 hd hdd hee he
      have hcase : k < X ∨ (¬ k < X ∧ k < Y) := by
        rcases HM4.out with e | e
        · exact Or.inl (e ▸ hlt)
        · by_cases c : k < X
          · exact Or.inl c
          · exact Or.inr ⟨c, e ▸ hlt⟩
      have hkb : k ≤ 900000000 := by omega
      have HKM := Lib.hid hlt
      have HM1 := Lib.hid hM1
      have HM2 := Lib.hid hM2
      clear hlt hk hM1 hM2 hM3 hx hy
      rcases hcase with h | ⟨h, h'⟩
      all_goals
        go_wp2_with fail
        refine H1.out.mono ?_
        rintro e w' ⟨rfl, rfl⟩
        go_wp2_with fail
        refine H2.out.mono ?_
        rintro e w' ⟨rfl, rfl⟩
        go_wp2_with (at_builtin; go_loud (refine wpList_app1 wr rfl (.tmp 29) (.tmp 32) _ rfl w.heap.size 3 3 i0 .i64 8 Tryd.underlying78 hi0 hz0 hj1 hj2 (by omega) _ (dl 256 (x + y) k) d rfl rfl hown.out hlen.out hb.size ?_); intro v5 w5 hown5 hb5 hfr5 hnw5)
        rw [HD.out, ← dl_succ] at hown5
        have HO5 := Lib.hid hown5
        clear hown5 hfr5 hnw5
        go_roundw
        case rel => exact ⟨k + 1, _, by have := HKM.out; omega, by go_num, rfl, HE, HO5, hb.trans hb5⟩
        case measure =>
          have := HKM.out
          clear hdI hqq hw1 hq1
          simp [intOf]; omega
    · obtain rfl : k = M := by omega
      obtain ⟨hm2, hnd, hm8⟩ := plus_last (by have := HX.out; omega) (by have := HY.out; omega) hq.out
      have HM2 := Lib.hid hm2
      have HND := Lib.hid hnd
      have hlen : Hid ((dl 256 (x + y) k).length + 1 ≤ 17592186044416) := Lib.hid (by rw [dl_length]; omega)
      have h1 : ¬ k < X := by omega
      have h2 : ¬ k < Y := by omega
      clear hm2 hnd hq hlt
      go_wp2_with (at_builtin; go_loud (refine wpList_app1 wr rfl (.tmp 36) (.tmp 38) _ rfl w.heap.size 3 3 i0 .i64 8 Tryd.underlying78 hi0 hz0 hj1 hj2 (by omega) _ (dl 256 (x + y) k) q rfl rfl hown.out hlen.out hb.size ?_); intro v5 w5 hown5 hb5 hfr5 hnw5)
      rw [HM2.out, ← dl_succ] at hown5
      obtain ⟨A5, c5, rfl, hc5⟩ := hown5.len
      rw [dl_length] at hown5 ⊢
      have KC := Lib.hid (rCut3_c (x + y) (k + 1) _ A5 c5 w5 HND.out (by omega) hown5)
      have HO5 := Lib.hid hown5
      clear hown5 hfr5 hnw5 hc5
      go_wp2_with fail
      refine KC.out.mono ?_
      rintro e w6 ⟨rfl, rfl⟩
      go_wp2_with fail
      go_ret
      exact ⟨_, _, rfl, HO5.out.cut HND.out, hb.trans hb5⟩
theorem sub_step3 (x y k : Nat) (h : y ≤ x) :
    (dgt 256 x k < dgt 256 y k + bor 256 x y k → dgt 256 (x - y) k + dgt 256 y k + bor 256 x y k = dgt 256 x k + 256 ∧ bor 256 x y (k + 1) = 1) ∧
    (¬ dgt 256 x k < dgt 256 y k + bor 256 x y k → dgt 256 (x - y) k + dgt 256 y k + bor 256 x y k = dgt 256 x k ∧ bor 256 x y (k + 1) = 0) := by
  have h1 := dgt_sub (b := 256) (by omega) x y k h
  have h2 := bor_succ (b := 256) (by omega) x y k
  have h3 := bor_le 256 x y k
  have h4 := dgt_lt (b := 256) (by omega) x k
  have h5 := dgt_lt (b := 256) (by omega) y k
  refine ⟨fun c => ?_, fun c => ?_⟩
  · rw [if_pos c] at h2
    exact ⟨by omega, h2⟩
  · rw [if_neg c] at h2
    exact ⟨by omega, h2⟩
theorem nd_sub (x y : Nat) : nd 256 (x - y) ≤ nd 256 x := nd_mono (by omega) (Nat.sub_le _ _)
set_option maxRecDepth 100000 in
set_option maxHeartbeats 1000000 in
theorem rMinus3_c (x y B B' : Nat) (A A' : Option Addr) (c c' : Nat) (w : World) (hle : y ≤ x) (hx : nd 256 x ≤ 1000000) (h : Own w B 3 .i64 (.slice A (nd 256 x) c) (dl 256 x (nd 256 x))) (h' : Own w B' 3 .i64 (.slice A' (nd 256 y) c') (dl 256 y (nd 256 y))) :
    Calls Tryd.prog 88 #[.slice A (nd 256 x) c, .slice A' (nd 256 y) c'] w (BigP (x - y) w) := by
  obtain ⟨i0, hi0, hz0, hj1, hj2⟩ := info_parts (P := Tryd.prog) (e := 3) (z := .int .i64 0) (size := 1) (bytes := 8) (by kernel_rfl)
  have hy : nd 256 y ≤ 1000000 := Nat.le_trans (nd_mono (by omega) hle) hx
  have hnd := nd_sub x y
  obtain ⟨X, hX⟩ : ∃ X, X = nd 256 x := ⟨_, rfl⟩
  obtain ⟨Y, hY⟩ : ∃ Y, Y = nd 256 y := ⟨_, rfl⟩
  rw [← hX] at h hx hnd ⊢
  rw [← hY] at h' hy ⊢
  have HX := Lib.hid hX
  have HY := Lib.hid hY
  have HO3 := Lib.hid h
  have HO2 := Lib.hid h'
  have HLE := Lib.hid hle
  have HND := Lib.hid hnd
  clear hX hY h h' hle hnd
  go_enter Tryd.func88, Tryd.ntmps88
  go_wp2_with fail
  go_loopw [5, 6, 7] (fun v m i wr => ∃ (k q : Nat), k ≤ X ∧ i = .int .i64 k ∧ m = .int .i64 q ∧ Hid (q = bor 256 x y k) ∧ Hid (Own wr w.heap.size 3 .i64 v (dl 256 (x - y) k)) ∧ Below w.heap.size w wr) (fun _ _ i _ => X - (intOf i).toNat)
  case atStart => exact ⟨0, 0, by omega, rfl, rfl, Lib.hid (bor_zero _ _ _).symm, Lib.hid (Own.nil _ _ _ _), Below.refl _ _⟩
  case round =>
    obtain ⟨k, q, hk, rfl, rfl, hq, hown, hb⟩ := hrel
    by_cases hlt : k < X
    · obtain ⟨d, hd⟩ : ∃ d, d = dgt 256 (x - y) k := ⟨_, rfl⟩
      obtain ⟨st1, st2⟩ := sub_step3 x y k HLE.out
      rw [← hq.out, ← hd] at st1 st2
      have ha := dgt_lt (b := 256) (by omega) x k
      have hb' := dgt_lt (b := 256) (by omega) y k
      have hd2 := dgt_lt (b := 256) (by omega) (x - y) k
      have hq1 := bor_le 256 x y k
      rw [← hd] at hd2
      rw [← hq.out] at hq1
      obtain ⟨g, cap, e1, _, hg, hcell, hfz⟩ := (HO3.out.below hb (fun g e => (HO3.out.lt g e).2)).cell (j := k) (by rw [dl_length]; exact hlt)
      injection e1 with e1 e2 e3
      subst e1
      rw [dlget3] at hcell
      have K2 := fun m => rAt3_c y Y k _ A' c' (wr.drewN m) (by have := HY.out; omega) (by omega) (by omega) ((HO2.out.below hb (fun g e => (HO2.out.lt g e).2)).drewN m)
      generalize dgt 256 x k = a at *
      generalize dgt 256 y k = b at *
      have H2 := Lib.hid K2
      have HD := Lib.hid hd
      have hlen : Hid ((dl 256 (x - y) k).length + 1 ≤ 17592186044416) := Lib.hid (by rw [dl_length]; omega)
      have hw1 : IntKind.i64.wrap ((a : Int) - (b : Int)) = (a : Int) - (b : Int) := IntWalk.i64_in _ (by omega)
      have hw2 : IntKind.i64.wrap ((a : Int) - (b : Int) - (q : Int)) = (a : Int) - (b : Int) - (q : Int) := IntWalk.i64_in _ (by omega)
      clear K2 hd hfz e2 e3
      have hkb : k ≤ 1000000 := by omega
      have HKX := Lib.hid hlt
      have HST1 := Lib.hid st1
      have HST2 := Lib.hid st2
      clear st1 st2 hk
      by_cases hc : a < b + q
      · obtain ⟨s1, s2⟩ := HST1.out hc
        have HB := Lib.hid s2.symm
        have hdd : (a : Int) - (b : Int) - (q : Int) + 256 = (d : Int) := by omega
        have hneg : (a : Int) - (b : Int) - (q : Int) < 0 := by omega
        clear s1 s2 hc
        go_wp2_with fail
        go_quiet ((go_at_call 125; exact Calls.quiet_of_same ((H2.out _).mono fun _ _ h => ⟨h.1, h.2.symm⟩)))
        rename_i nq
        have hbq := below_drewN hb nq
        have hownq := Lib.hid (hown.out.drewN nq)
        generalize wr.drewN nq = wq at *
        go_wp2_with (at_builtin; go_loud (refine wpList_app1 wq rfl (.tmp 29) (.tmp 31) _ rfl w.heap.size 3 3 i0 .i64 8 Tryd.underlying78 hi0 hz0 hj1 hj2 (by omega) _ (dl 256 (x - y) k) d rfl rfl hownq.out hlen.out hbq.size ?_); intro v5 w5 hown5 hb5 hfr5 hnw5)
        rw [HD.out, ← dl_succ] at hown5
        have HO5 := Lib.hid hown5
        clear hown5 hfr5 hnw5
        go_roundw
        case rel => exact ⟨k + 1, 1, by have := HKX.out; omega, by go_num, rfl, HB, HO5, hbq.trans hb5⟩
        case measure =>
          have := HKX.out
          clear hw1 hw2 hdd hneg
          simp [intOf]; omega
      · obtain ⟨s1, s2⟩ := HST2.out hc
        have HB := Lib.hid s2.symm
        have hdz : (a : Int) - (b : Int) - (q : Int) = (d : Int) := by omega
        have hd0 : ¬ (d : Int) < 0 := by omega
        clear s1 s2 hc
        go_wp2_with fail
        go_quiet ((go_at_call 125; exact Calls.quiet_of_same ((H2.out _).mono fun _ _ h => ⟨h.1, h.2.symm⟩)))
        rename_i nq
        have hbq := below_drewN hb nq
        have hownq := Lib.hid (hown.out.drewN nq)
        generalize wr.drewN nq = wq at *
        go_wp2_with (at_builtin; go_loud (refine wpList_app1 wq rfl (.tmp 29) (.tmp 31) _ rfl w.heap.size 3 3 i0 .i64 8 Tryd.underlying78 hi0 hz0 hj1 hj2 (by omega) _ (dl 256 (x - y) k) d rfl rfl hownq.out hlen.out hbq.size ?_); intro v5 w5 hown5 hb5 hfr5 hnw5)
        rw [HD.out, ← dl_succ] at hown5
        have HO5 := Lib.hid hown5
        clear hown5 hfr5 hnw5
        go_roundw
        case rel => exact ⟨k + 1, 0, by have := HKX.out; omega, by go_num, rfl, HB, HO5, hbq.trans hb5⟩
        case measure =>
          have := HKX.out
          clear hw1 hw2 hdz
          simp [intOf]; omega
    · obtain rfl : k = X := by omega
      obtain ⟨A5, c5, rfl, hc5⟩ := hown.out.len
      have hown5 := hown.out
      rw [dl_length] at hown5 ⊢
      have KC := Lib.hid (rCut3_c (x - y) k _ A5 c5 wr HND.out (by omega) hown5)
      have HO5 := Lib.hid hown5
      clear hown5 hc5 hown
      go_wp2_with fail
      refine KC.out.mono ?_
      rintro e w6 ⟨rfl, rfl⟩
      go_wp2_with fail
      go_ret
      exact ⟨_, _, rfl, HO5.out.cut HND.out, hb⟩
end Go.Proofs.YtjkonfopajihdaaDoor
set_option linter.unusedSimpArgs false
set_option linter.unusedVariables false
namespace Go.Proofs.YtjkonfopajihdaaDoor
open Go Go.RowKit Nt

/-- The digits of a number stand at A. -/
def DRow (w : World) (A : Option Addr) (n L : Nat) : Prop := ∀ j, j < L → ∃ g, A = some ⟨g, 0, none⟩ ∧ g < w.heap.size ∧ w.cell? ⟨g, j, none⟩ = some (.int .i64 (dgt 256 n j : Nat))
theorem Own.drow {w : World} {B : Nat} {T : TypeId} {A : Option Addr} {L c n : Nat} (h : Own w B T .i64 (.slice A L c) (dl 256 n L)) : DRow w A n L := fun j hj => by
  obtain ⟨g, cap, e, _, hg, hc, _⟩ := h.cell (j := j) (by rw [dl_length]; exact hj)
  injection e with e1 e2 e3
  rw [dlget3] at hc
  exact ⟨g, e1, hg, hc⟩
set_option maxHeartbeats 400000 in
theorem rCmp3_c (a b B B' : Nat) (A A' : Option Addr) (c c' : Nat) (w : World) (hL : nd 256 a ≤ 1000000) (hL' : nd 256 b ≤ 1000000) (hr : Own w B 3 .i64 (.slice A (nd 256 a) c) (dl 256 a (nd 256 a))) (hr' : Own w B' 3 .i64 (.slice A' (nd 256 b) c') (dl 256 b (nd 256 b))) :
    Calls Tryd.prog 78 #[.slice A (nd 256 a) c, .slice A' (nd 256 b) c'] w fun e w' => e = .returned (.int .i64 (cmpN a b)) ∧ ∃ n, w' = w.drewN n := by
  have HR := Lib.hid hr.drow
  have HR' := Lib.hid hr'.drow
  clear hr hr'
  rcases Nat.lt_trichotomy (nd 256 a) (nd 256 b) with h | h | h
  · have hn : ((nd 256 a : Int) != (nd 256 b : Int)) = true := by rw [bne_iff_ne]; omega
    have HC := Lib.hid (cmpN_lt (lt_of_nd (b := 256) (by omega) h))
    go_enter Tryd.func78, Tryd.ntmps78
    go_wp2
    go_ret
    exact ⟨ret_int HC.out.symm, 0, rfl⟩
  · have ha := lt_nd (b := 256) (n := a) (by omega)
    have hb := lt_nd (b := 256) (n := b) (by omega)
    rw [← h] at hb hL' HR' ⊢
    have HA := Lib.hid ha
    have HB := Lib.hid hb
    have HE := Lib.hid h
    clear ha hb h
    obtain ⟨L, hLe⟩ : ∃ L, L = nd 256 a := ⟨_, rfl⟩
    have hLL : L ≤ 1000000000 := by omega
    rw [← hLe] at HA HB HR HR' ⊢
    have hw : wrap64 ((L : Int) - 1) = (L : Int) - 1 := IntWalk.wrap64_in _ (by omega)
    have hn : ((L : Int) != (L : Int)) = false := by simp
    have HLE := Lib.hid hLe
    clear hLe
    go_enter Tryd.func78, Tryd.ntmps78
    go_wp2
    go_loopw [5] (fun i wr => ∃ (k : Nat) (z : Int) (m : Nat), k ≤ L ∧ i = .int .i64 z ∧ Hid (z = (k : Int) - 1) ∧ Hid (∀ j, k ≤ j → j < L → dgt 256 a j = dgt 256 b j) ∧ wr = w.drewN m) (fun i _ => (intOf i + 1).toNat)
    case atStart => exact ⟨L, _, 0, Nat.le_refl _, rfl, Lib.hid rfl, Lib.hid (fun j h1 h2 => by omega), rfl⟩
    case round =>
      obtain ⟨k, z, mm, hk, rfl, hz, hd, rfl⟩ := hrel
      by_cases h0 : k = 0
      · subst h0
        obtain rfl : z = -1 := by have := hz.out; omega
        go_wp2
        go_ret
        refine ⟨ret_int ?_, _, rfl⟩
        obtain rfl : a = b := eq_of_digits HA.out HB.out (fun i hi => hd.out i (by omega) hi)
        exact (cmpN_eq _).symm
      · obtain ⟨m, rfl⟩ : ∃ m, k = m + 1 := ⟨k - 1, by omega⟩
        obtain rfl : z = (m : Int) := by have := hz.out; omega
        obtain ⟨g, rfl, _, hc⟩ := HR.out m (by omega)
        obtain ⟨g', rfl, _, hc'⟩ := HR'.out m (by omega)
        have hm : m < L := by omega
        have hw : wrap64 ((m : Int) - 1) = (m : Int) - 1 := IntWalk.wrap64_in _ (by omega)
        rcases Nat.lt_trichotomy (dgt 256 a m) (dgt 256 b m) with hlt | heq | hgt
        · have HC := Lib.hid (cmpN_lt (lt_of_digit (b := 256) (by omega) HA.out HB.out hm hd.out hlt))
          have h1 : (((dgt 256 a m : Nat) : Int) != ((dgt 256 b m : Nat) : Int)) = true := by rw [bne_iff_ne]; omega
          go_wp2
          go_quiet (fail)
          go_wp2
          go_quiet (fail)
          go_wp2
          go_ret
          exact ⟨ret_int HC.out.symm, by first | exact Drawn.more ⟨_, rfl⟩ _ | exact Drawn.more (Drawn.more ⟨_, rfl⟩ _) _⟩
        · have HD := Lib.hid heq
          have h1 : (((dgt 256 a m : Nat) : Int) != ((dgt 256 b m : Nat) : Int)) = false := by rw [bne_eq_false_iff_eq]; omega
          clear heq
          go_wp2
          go_quiet (fail)
          go_wp2
          go_roundw
          case rel => exact ⟨m, _, _, by omega, rfl, Lib.hid rfl, Lib.hid (fun j h1 h2 => by
            rcases Nat.lt_or_ge m j with h3 | h3
            · exact hd.out j h3 h2
            · obtain rfl : j = m := by omega
              exact HD.out), rfl⟩
          case measure => simp [intOf]
        · have HC := Lib.hid (cmpN_gt (lt_of_digit (b := 256) (by omega) HB.out HA.out hm (fun j h1 h2 => (hd.out j h1 h2).symm) hgt))
          have h1 : (((dgt 256 a m : Nat) : Int) != ((dgt 256 b m : Nat) : Int)) = true := by rw [bne_iff_ne]; omega
          have h2 : ¬ dgt 256 a m < dgt 256 b m := by omega
          go_wp2
          go_quiet (fail)
          go_wp2
          go_quiet (fail)
          go_wp2
          go_ret
          exact ⟨ret_int HC.out.symm, by first | exact Drawn.more ⟨_, rfl⟩ _ | exact Drawn.more (Drawn.more ⟨_, rfl⟩ _) _⟩
  · have hn : ((nd 256 a : Int) != (nd 256 b : Int)) = true := by rw [bne_iff_ne]; omega
    have HC := Lib.hid (cmpN_gt (lt_of_nd (b := 256) (by omega) h))
    have h2 : ¬ nd 256 a < nd 256 b := by omega
    go_enter Tryd.func78, Tryd.ntmps78
    go_wp2
    go_ret
    exact ⟨ret_int HC.out.symm, 0, rfl⟩
theorem halv_dgt (n q r j : Nat) (hr : r < 8) : dgt 256 (n / 2 ^ (8 * q + r)) j = (dgt 256 n (q + j) + 256 * dgt 256 n (q + j + 1)) / 2 ^ r % 256 := by
  have e : n / 2 ^ (8 * q + r) = n / 256 ^ q / 2 ^ r := by
    rw [Nat.pow_add, Nat.pow_mul, Nat.div_div_eq_div_mul]
  rw [e]
  have h := dgt_shr (e := 8) (n / 256 ^ q) r j (by omega)
  rw [show (2 : Nat) ^ 8 = 256 from rfl, dgt_skip, dgt_skip, Nat.add_comm j q, Nat.add_right_comm j 1 q, Nat.add_comm j q] at h
  rw [h]
  have h1 := dgt_lt (b := 256) (by omega) n (q + j)
  have h2 := dgt_lt (b := 256) (by omega) n (q + j + 1)
  generalize dgt 256 n (q + j) = a at *
  generalize dgt 256 n (q + j + 1) = b at *
  clear h e
  have : r = 0 ∨ r = 1 ∨ r = 2 ∨ r = 3 ∨ r = 4 ∨ r = 5 ∨ r = 6 ∨ r = 7 := by omega
  rcases this with rfl | rfl | rfl | rfl | rfl | rfl | rfl | rfl <;> simp <;> omega
theorem hv_int {a b r x : Nat} (h1 : a < 256) (h2 : b < 256) (hx : (a + 256 * b) / 2 ^ r % 256 = x) :
    ∃ S T : Nat, Hid (S = a + 256 * b) ∧ IntKind.i64.wrap ((256 : Int) * (b : Int)) = 256 * (b : Int) ∧ IntKind.i64.wrap ((a : Int) + 256 * (b : Int)) = (S : Int) ∧ Hid ((S : Int) / 2 ^ r = (T : Int)) ∧ (T : Int).tmod 256 = (x : Int) ∧ S ≤ 65535 ∧ T ≤ 65535 ∧ x < 256 := by
  refine ⟨a + 256 * b, (a + 256 * b) / 2 ^ r, Lib.hid rfl, IntWalk.i64_in _ (by clear hx; omega), ?_, Lib.hid (by rw [int_pow2, Int.natCast_ediv]), ?_, by clear hx; omega, Nat.le_trans (Nat.div_le_self _ _) (by clear hx; omega), by rw [← hx]; exact Nat.mod_lt _ (by omega)⟩
  · rw [IntWalk.i64_in _ (by clear hx; omega)]; rw [Int.natCast_add, Int.natCast_mul]; rfl
  · exact mod_int hx
theorem halv_nd {n q r L k : Nat} (h : nd 256 n ≤ L) (hk : L ≤ q + k) : nd 256 (n / 2 ^ (8 * q + r)) ≤ k := by
  refine nd_le (by omega) ?_
  have h1 := (lt_pow_iff (b := 256) (by omega) L n).2 h
  rw [Nat.div_lt_iff_lt_mul (Nat.two_pow_pos _)]
  have h2 : 256 ^ L ≤ 256 ^ k * 2 ^ (8 * q + r) := by
    rw [Nat.pow_add, Nat.pow_mul, show (2 : Nat) ^ 8 = 256 from rfl, ← Nat.mul_assoc, ← Nat.pow_add]
    exact Nat.le_trans (Nat.pow_le_pow_right (by omega) (by omega)) (Nat.le_mul_of_pos_right _ (Nat.two_pow_pos _))
  omega
end Go.Proofs.YtjkonfopajihdaaDoor
set_option linter.unusedSimpArgs false
set_option linter.unusedVariables false
namespace Go.Proofs.YtjkonfopajihdaaDoor
open Go Go.RowKit Nt

theorem step_app1 {P : Program} (W : World) {ops : Array Oper} {o : Oper} {a : Act} {K : Act → World → Prop} {Q : Exit → Act → World → Prop} {E : Prop} (hgd : o.guard = none) (s x : Operand) (t : TypeId)
    (ho : o.op = .call { callee := .builtin .append, args := #[s, x], argTypes := #[t, t] })
    (B : Nat) (e : TypeId) (i : TypeInfo) (k : IntKind) (bytes : Nat) (ht : P.underlying t = some (.slice e)) (hi : P.info? e = some i) (hz : i.zero = some (.int k 0))
    (hsize : i.size = 1) (hby : i.bytes = bytes) (hb8 : bytes ≤ 8)
    (v : Value) (l : List Nat) (y : Nat) (ad : Addr) (hs : a.eval s = v) (hx : a.eval x = .slice (some ad) 1 1) (hcx : W.cell? ad = some (.int k (y : Nat))) (hown : Own W B e k v l)
    (hn : l.length + 1 ≤ 17592186044416) (hB : B ≤ W.heap.size)
    (h : ∀ v' w', Own w' B e k v' (l ++ [y]) → Below B W w' → K (a.put o.dst v') w') :
    if Region.wanted o (yielded ops a.tmps) = true then Oper.wp P o a W K Q else E := by
  have hw : Region.wanted o (yielded ops a.tmps) = true := by simp [Region.wanted, hgd]
  rw [if_pos hw]
  have hbytes : (l.length + 1) * bytes ≤ 140737488355328 := by
    have h1 : (l.length + 1) * bytes ≤ (l.length + 1) * 8 := Nat.mul_le_mul_left _ hb8
    omega
  obtain ⟨v', w', hrun, h2, hg, _, h5⟩ := run_append_own_at (P := P) W B t o.type e i (.int k 0) 1 bytes ht hi hz hsize hby rfl (by omega) v l.length (l.map (fun (x : Nat) => Value.int k (x : Int))) hown
    ad 1 1 [.int k (y : Nat)] rfl (by
      intro j u hu
      have hj : j = 0 := by
        rcases Nat.lt_or_ge j 1 with h | h
        · omega
        · rw [List.getElem?_eq_none (by simpa using h)] at hu; cases hu
      subst hj
      have e0 : ad.add 0 = ad := by unfold Addr.add; simp
      rw [e0, hcx]
      exact hu) (by
      intro u hu
      rw [List.mem_singleton.1 hu]; rfl) (by simp [maxLen]; omega) hbytes hB
  unfold Oper.wp execOp
  simp only [ho, resolve, invoke, builtin, Sem.run_bind, Sem.run_pure, Result.andThen_ok, List.map_toArray, List.map_cons, List.map_nil, hs, hx, hrun]
  refine h v' w' ?_ ?_
  · unfold Own
    simpa using h2
  · exact Below.grown (Below.refl _ _) hg hB (fun g e => (hown.lt g e).1)
set_option maxRecDepth 100000 in
set_option maxHeartbeats 1000000 in
theorem rHalved3_c (n q r B : Nat) (A : Option Addr) (c : Nat) (w : World) (hr : r < 8) (hq : q ≤ 1000000) (hn : nd 256 n ≤ 1000000) (h : Own w B 3 .i64 (.slice A (nd 256 n) c) (dl 256 n (nd 256 n))) :
    Calls Tryd.prog 91 #[.slice A (nd 256 n) c, .int .i64 ((8 * q + r : Nat) : Int)] w (BigP (n / 2 ^ (8 * q + r)) w) := by
  obtain ⟨i0, hi0, hz0, hj1, hj2⟩ := info_parts (P := Tryd.prog) (e := 3) (z := .int .i64 0) (size := 1) (bytes := 8) (by kernel_rfl)
  have hdd := halv_dgt n q r
  have hnn := @halv_nd n q r
  obtain ⟨b, hbe⟩ : ∃ b, b = 8 * q + r := ⟨_, rfl⟩
  obtain ⟨z, hz⟩ : ∃ z, z = n / 2 ^ b := ⟨_, rfl⟩
  rw [← hbe] at hdd hnn ⊢
  rw [← hz] at hdd ⊢
  have hbq : (b : Int).tdiv 8 = (q : Int) := by rw [Int.tdiv_eq_ediv_of_nonneg (by omega)]; omega
  have hbr : IntKind.i64.wrap ((b : Int).tmod 8) = (r : Int) := by
    rw [Int.tmod_eq_emod_of_nonneg (by omega), IntWalk.i64_in _ (by omega)]; omega
  have hbr2 : (b : Int).tmod 8 = (r : Int) := by rw [Int.tmod_eq_emod_of_nonneg (by omega)]; omega
  have hnz : ∀ {L k : Nat}, nd 256 n ≤ L → L ≤ q + k → nd 256 z ≤ k := fun h1 h2 => by rw [hz]; exact hnn h1 h2
  obtain ⟨L, hL⟩ : ∃ L, L = nd 256 n := ⟨_, rfl⟩
  rw [← hL] at h hn ⊢
  have HL := Lib.hid hL
  have HO := Lib.hid h
  have HDD := Lib.hid (fun j => hdd j hr)
  have HNZ := Lib.hid (fun k => @hnz L k (by rw [hL]; exact Nat.le_refl _))
  clear hL h hdd hnn hnz hz hbe
  go_enter Tryd.func91, Tryd.ntmps91
  go_wp2_with fail
  go_loopw [5, 6] (fun v i wr => ∃ (k p : Nat), (p = q + k) ∧ (k = 0 ∨ p ≤ L) ∧ i = .int .i64 p ∧ Hid (Own wr w.heap.size 3 .i64 v (dl 256 z k)) ∧ Below w.heap.size w wr) (fun _ i _ => L - (intOf i).toNat)
  case atStart => exact ⟨0, q, by omega, Or.inl rfl, rfl, Lib.hid (Own.nil _ _ _ _), Below.refl _ _⟩
  case round =>
    obtain ⟨k, p, hp, hpk, rfl, hown, hb⟩ := hrel
    rename_i u5 _
    by_cases hlt : p < L
    · have HDk := HDD.out k
      rw [← hp] at HDk
      obtain ⟨g, hA, hg, hcell⟩ := HO.out.drow p hlt
      have hcw := (hb.cell (p := ⟨g, p, none⟩) hg).trans hcell
      subst hA
      have hpI : (p : Int) + 1 = ((p + 1 : Nat) : Int) := by omega
      have ha := dgt_lt (b := 256) (by omega) n p
      have hb' := dgt_lt (b := 256) (by omega) n (p + 1)
      have K2 := fun wx (hx : Below w.heap.size w wx) => rAt3_c n L (p + 1) _ _ c wx (by have := HL.out; omega) (by omega) (by omega) (HO.out.below hx (fun g e => (HO.out.lt g e).2))
      obtain ⟨x, hx⟩ : ∃ x, x = dgt 256 z k := ⟨_, rfl⟩
      rw [← hx] at HDk
      have HX := Lib.hid hx
      obtain ⟨p1, hp1⟩ : ∃ p1, p1 = p + 1 := ⟨_, rfl⟩
      rw [← hp1] at hpI hb' K2 HDk
      generalize dgt 256 n p = a at *
      generalize dgt 256 n p1 = b2 at *
      obtain ⟨S, T, HS, hw1, hw2, HT, htm, hS1, hT1, hx8⟩ := hv_int ha hb' HDk.symm
      have H2 := Lib.hid K2
      have hlen : Hid ((dl 256 z k).length + 1 ≤ 17592186044416) := Lib.hid (by rw [dl_length]; omega)
      have hwp : IntKind.i64.wrap (p1 : Int) = (p1 : Int) := IntWalk.i64_in _ (by omega)
      have HP := Lib.hid hp
      have HP1 := Lib.hid hp1
      have HLT := Lib.hid hlt
      have HNEW : Hid (((wr.alloc (.cells #[.int .i64 (x : Nat)] 3)).drew).cell? ⟨wr.heap.size, 0, none⟩ = some (.int .i64 (x : Nat))) := Lib.hid (show (wr.alloc (.cells #[.int .i64 (x : Nat)] 3)).cell? ⟨wr.heap.size, 0, none⟩ = _ from (World.cell?_alloc_at _ _ _ _ rfl).trans rfl)
      have HOWN : Hid (Own ((wr.alloc (.cells #[.int .i64 (x : Nat)] 3)).drew) w.heap.size 3 .i64 u5 (dl 256 z k)) := Lib.hid (World.ownsRow.alloc hown.out _)
      have HSZ : Hid (w.heap.size ≤ ((wr.alloc (.cells #[.int .i64 (x : Nat)] 3)).drew).heap.size) := Lib.hid (Nat.le_trans hb.size (by show wr.heap.size ≤ (wr.alloc _).heap.size; simp))
      have HBW : Hid (Below w.heap.size w ((wr.alloc (.cells #[.int .i64 (x : Nat)] 3)).drew)) := Lib.hid ((hb.alloc hb.size _).drew)
      clear HDk hx hp hp1 K2 hcell hpk hlt hn hq
      go_wp2_with fail
      go_region_law (first
        | (rw [HT.out, htm]; go_loud (refine step_app1 ((wr.alloc (.cells #[.int .i64 (x : Nat)] 3)).drew) rfl (.tmp 15) (.tmp 30) _ rfl w.heap.size 3 i0 .i64 8 Tryd.underlying78 hi0 hz0 hj1 hj2 (by omega) _ (dl 256 z k) x ⟨wr.heap.size, 0, none⟩ (by simp [Act.eval, Act.put]) (by simp [Act.eval, Act.put]) HNEW.out HOWN.out hlen.out HSZ.out ?_); intro v5 w5 hown5 hb5)
        | (go_simp; go_at_call 125; refine (H2.out _ (by first | exact hb | exact hb.drew)).mono ?_; rintro e w' ⟨rfl, rfl⟩))
      all_goals
        rw [HX.out, ← dl_succ] at hown5
        have HO5 := Lib.hid hown5
        have hbf := HBW.out.trans hb5
        clear hown5 hb5 HNEW HOWN HSZ HBW
        go_wp2_with fail
        go_roundw
        case rel => exact ⟨k + 1, p1, by have := HP.out; have := HP1.out; omega, Or.inr (by have := HLT.out; have := HP1.out; omega), by go_num, HO5, hbf⟩
        case measure =>
          have := HLT.out
          have := HP1.out
          clear hw1 hw2 htm hbq hbr hbr2 hpI
          simp [intOf]; omega
    · have HND : Hid (nd 256 z ≤ k) := Lib.hid (HNZ.out k (by omega))
      have hk9 : k ≤ 1000000000 := by omega
      obtain ⟨A5, c5, rfl, hc5⟩ := hown.out.len
      have hown5 := hown.out
      rw [dl_length] at hown5 ⊢
      have KC := Lib.hid (rCut3_c z k _ A5 c5 wr HND.out hk9 hown5)
      have HO5 := Lib.hid hown5
      clear hown5 hc5 hown hpk hp
      go_wp2_with fail
      refine KC.out.mono ?_
      rintro e w6 ⟨rfl, rfl⟩
      go_wp2_with fail
      go_ret
      exact ⟨_, _, rfl, HO5.out.cut HND.out, hb⟩
end Go.Proofs.YtjkonfopajihdaaDoor
