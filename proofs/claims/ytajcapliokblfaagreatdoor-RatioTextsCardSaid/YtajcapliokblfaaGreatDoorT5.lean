/- Texts put together: N38 N39 N44 N44p N45 N46 N48 N62 N77 P20 P21 P22 P23 P24 D8 DM D12 D15 Fft B1t B2t Mtt B3t D20 B4t B5t B6t D60 D61 D23 D7 D22 D24 D25 D27 D35 D37 D40 D42 D43 D62 SyD D63 P33. -/
import Derived.Test.YtajcapliokblfaaGreatDoorT2
import Derived.Test.YtajcapliokblfaaGreatDoorT4
import Derived.Test.YtajcapliokblfaaGreatDoorT3
import Derived.Test.YtajcapliokblfaaGreatDoorT1
import Derived.BigQuiet
import Derived.Deep.RegionLaw
import Ieee.Arith
import Derived.Test.YtajcapliokblfaaGreatDoorProg
import Derived.WalkKit
import Derived.WalkLawsBesides
import Derived.WalkSpells
import Derived.Outline
import Derived.Lib.Hide
import Derived.Deep.Light
import Derived.Laws.BitsAllLaws
import Derived.Laws.FloatArith
import Derived.Deep.QuietTactic
import Derived.Lib.TrailingZeros
import Derived.Shelf.Strconv.Itoa0
import Derived.Laws.ShiftsVarLaws
import Derived.WalkSmall
import Derived.Deep.RegionHeld3
set_option linter.unusedSimpArgs false
set_option linter.unusedVariables false
namespace Go.Proofs.YtajcapliokblfaaGreatDoor
open Go Go.RowKit Nt
theorem rBit_0 (n : Nat) (i : Nat) (w : World) (hf : fits n) (hi : i ≤ 9223372036854775807) (h : dgt 2 n i = 0) :
    Calls Tryz.prog 126 #[.string (natS n), .int .i64 (i : Nat)] w fun e w' => e = .returned (.int .i64 0) ∧ w = w' := by
  have := rBit_c n i w hf hi
  rwa [h] at this
theorem rBit_1 (n : Nat) (i : Nat) (w : World) (hf : fits n) (hi : i ≤ 9223372036854775807) (h : dgt 2 n i = 1) :
    Calls Tryz.prog 126 #[.string (natS n), .int .i64 (i : Nat)] w fun e w' => e = .returned (.int .i64 1) ∧ w = w' := by
  have := rBit_c n i w hf hi
  rwa [h] at this
set_option maxRecDepth 100000 in
theorem rLen_c (n : Nat) (w : World) (hf : fits n) :
    Calls Tryz.prog 145 #[.string (natS n)] w fun e w' => e = .returned (.int .i64 (nd 2 n : Nat)) ∧ w = w' := by
  have hsz := natS_size n
  have hL : nd 256 n ≤ 16384 := hf
  have hbb := bytes_bits n
  have HF := Lib.hid hf
  obtain ⟨N, hN⟩ : ∃ N, N = nd 256 n := ⟨_, rfl⟩
  rw [← hN] at hsz hL hbb
  have HBB := Lib.hid hbb
  clear hN hf hbb
  go_enter Tryz.func145, Tryz.ntmps145
  go_wp2
  go_loopw [3] (fun i wr => ∃ k : Nat, k ≤ 8 * N ∧ i = .int .i64 k ∧ Hid (nd 2 n ≤ k) ∧ w = wr) (fun i _ => (intOf i).toNat)
  case atStart => exact ⟨8 * N, Nat.le_refl _, by go_num, Lib.hid (by have := HBB.out; omega), rfl⟩
  case round =>
    obtain ⟨k, hk, rfl, hle, rfl⟩ := hrel
    by_cases h0 : k = 0
    · subst h0
      have HZ := Lib.hid (show nd 2 n = 0 by have := hle.out; omega)
      go_wp2
      go_ret
      exact ⟨by rw [HZ.out]; rfl, rfl⟩
    · obtain ⟨m, rfl⟩ : ∃ m, k = m + 1 := ⟨k - 1, by omega⟩
      have hw : wrap64 ((m : Int) + 1 - 1) = (m : Int) := by rw [IntWalk.wrap64_in _ (by omega)]; omega
      by_cases h1 : nd 2 n = m + 1
      · have hb : dgt 2 n m = 1 := by
          have h2 := dgt_top (b := 2) (n := n) (by omega) (fun c => by rw [c, nd_zero] at h1; omega)
          rw [h1, Nat.add_sub_cancel] at h2
          have := dgt_lt (b := 2) (by omega) n m
          omega
        have K := Lib.hid (fun w => rBit_1 n m w HF.out (by omega) hb)
        have H1 := Lib.hid h1
        clear h1 hb
        go_wp2_with (go_at_call 126; refine (K.out _).mono ?_; rintro e w' ⟨rfl, rfl⟩)
        go_ret
        exact ⟨by rw [H1.out]; rfl, rfl⟩
      · have hb : dgt 2 n m = 0 := dgt_big (by omega) (by have := hle.out; omega)
        have K := Lib.hid (fun w => rBit_0 n m w HF.out (by omega) hb)
        have H1 := Lib.hid (show nd 2 n ≤ m by have := hle.out; omega)
        clear h1 hb
        go_wp2_with (go_at_call 126; refine (K.out _).mono ?_; rintro e w' ⟨rfl, rfl⟩)
        go_roundw
        case rel => exact ⟨m, by omega, rfl, H1, trivial⟩
        case measure => simp [intOf]; try omega
end Go.Proofs.YtajcapliokblfaaGreatDoor
namespace Go.Proofs.YtajcapliokblfaaGreatDoor
open Go Go.RowKit Nt
def madeF (n Z i j : Nat) : Nat := if n - i ≤ j then dgt 256 Z (n - 1 - j) else 0
theorem madeF_step {n Z i x j : Nat} (h : n = i + 1 + x) (hj : j < n) : (if j = x then dgt 256 Z i else madeF n Z i j) = madeF n Z (i + 1) j := by
  unfold madeF
  by_cases h1 : j = x
  · rw [if_pos h1, if_pos (by omega), show n - 1 - j = i by omega]
  · rw [if_neg h1]
    by_cases h2 : n - i ≤ j
    · rw [if_pos h2, if_pos (by omega)]
    · rw [if_neg h2, if_neg (by omega)]
theorem digit_of {l : List Nat} (hl : ∀ x ∈ l, x < 256) {j : Nat} (h : j < l.length) : dgt 256 (of 256 l) j = l[j] := dgt_of (by omega) l hl j h
set_option maxRecDepth 100000 in
set_option maxHeartbeats 1000000 in
theorem rMade_c (B : Nat) (v : Value) (l : List Nat) (w : World) (hl : ∀ x ∈ l, x < 256) (hn : l.length ≤ 1000000000) (hown : Own w B 3 .i64 v l) :
    Calls Tryz.prog 123 #[v] w fun e w' => e = .returned (.string (natS (of 256 l))) ∧ Below w.heap.size w w' := by
  obtain ⟨i0, hi0, hz0, hz1, hz2⟩ := info_parts (P := Tryz.prog) (e := 5) (z := .int .u8 0) (size := 1) (bytes := 1) (by kernel_rfl)
  obtain ⟨A, c, rfl, hc⟩ := hown.len
  obtain ⟨Z, hZ⟩ : ∃ Z, Z = of 256 l := ⟨_, rfl⟩
  obtain ⟨L, hL⟩ : ∃ L, L = l.length := ⟨_, rfl⟩
  have hdl := of_lt (b := 256) (by omega) l hl
  have hcell : ∀ j, j < L → ∃ ga, A = some ⟨ga, 0, none⟩ ∧ ga < w.heap.size ∧ w.cell? ⟨ga, j, none⟩ = some (.int .i64 (dgt 256 Z j : Nat)) := fun j hj => by
    obtain ⟨g, cap, e, _, hg, hcl, _⟩ := hown.cell (by rw [← hL]; exact hj)
    cases e
    exact ⟨g, rfl, hg, by rw [hcl, hZ, digit_of hl]⟩
  rw [← hZ] at hdl ⊢
  rw [← hL] at hn hc hdl ⊢
  have hnd : nd 256 Z ≤ L := nd_le (by omega) hdl
  have HC := Lib.hid hcell
  clear hcell hZ hL hown hl hdl hc
  go_enter Tryz.func123, Tryz.ntmps123
  go_wp2
  go_loopw [3] (fun i wr => ∃ k : Nat, k ≤ L ∧ i = .int .i64 k ∧ Hid (nd 256 Z ≤ k) ∧ w = wr) (fun i _ => (intOf i).toNat)
  case atStart => exact ⟨L, Nat.le_refl _, rfl, Lib.hid hnd, rfl⟩
  case round =>
    obtain ⟨k, hk, rfl, hle, rfl⟩ := hrel
    by_cases hstop : nd 256 Z = k
    · have HS := Lib.hid hstop
      clear hstop hle
      have hcond : k = 0 ∨ ∃ m ga, k = m + 1 ∧ A = some ⟨ga, 0, none⟩ ∧ w.cell? ⟨ga, k - 1, none⟩ = some (.int .i64 (dgt 256 Z m : Nat)) ∧ dgt 256 Z m ≠ 0 := by
        rcases Nat.eq_zero_or_pos k with h | h
        · exact Or.inl h
        · obtain ⟨m, rfl⟩ : ∃ m, k = m + 1 := ⟨k - 1, by omega⟩
          obtain ⟨ga, h1, _, h2⟩ := HC.out m (by omega)
          have h3 := dgt_top (b := 256) (n := Z) (by omega) (fun c => by have := HS.out; rw [c, nd_zero] at this; omega)
          rw [HS.out, Nat.add_sub_cancel] at h3
          exact Or.inr ⟨m, ga, rfl, h1, h2, h3⟩
      rcases hcond with h0 | ⟨m, ga, hm, rfl, hcl, hnz⟩
      case' inr =>
        have hz1' : ((dgt 256 Z m : Nat) : Int) ≠ 0 := by omega
        have hz2' : (((dgt 256 Z m : Nat) : Int) == 0) = false := by rw [beq_eq_false_iff_ne]; exact hz1'
        have hw : wrap64 ((k : Int) - 1) = (m : Int) := by rw [IntWalk.wrap64_in _ (by omega)]; omega
        have hk0 : (0 : Int) < (k : Int) := by omega
        have HM := Lib.hid hm
        clear hm
      case' inl =>
        have hk0 : ¬ (0 : Int) < (k : Int) := by omega
        have HM := Lib.hid h0
        clear h0
      all_goals
        go_wp2_with (at_make; go_loud (refine wpList_make_zero _ rfl _ _ _ rfl 5 i0 _ Tryz.underlying64 hi0 hz0 hz1 .i64 .i64 _ _ k rfl rfl rfl rfl (by rw [hz2]; omega) (by unfold maxLen; omega) ?_))
        rw [fcells_made]
        have HB0 := Lib.hid (Blk.new w 5 (fcells .u8 (fun _ => 0) k))
        have hbl : Below w.heap.size w (w.alloc (.cells (fcells .u8 (fun _ => 0) k) 5)) := (Below.refl _ _).alloc (Nat.le_refl _) _
        generalize w.alloc (.cells (fcells .u8 (fun _ => 0) k) 5) = w1 at *
        obtain ⟨g, hg⟩ : ∃ g, g = w.heap.size := ⟨_, rfl⟩
        rw [← hg] at HB0 hbl ⊢
        have HG := Lib.hid hg
        clear hg
        go_loopw [5] (fun i wr => ∃ q : Nat, q ≤ k ∧ i = .int .i64 q ∧ Hid (Blk wr g 5 (fcells .u8 (madeF k Z q) k)) ∧ Below g w wr) (fun i _ => k - (intOf i).toNat)
        case atStart => exact ⟨0, Nat.zero_le _, rfl, by rw [fcells_congr (f' := fun _ => 0) (fun j hj => by unfold madeF; rw [if_neg (by omega)])]; exact HB0, hbl⟩
        case round =>
          obtain ⟨q, hq, rfl, hblk, hb⟩ := hrel
          by_cases hlt : q < k
          · try exact absurd hlt (by have := HM.out; omega)
            all_goals
              obtain ⟨x, hx⟩ : ∃ x, k = q + 1 + x := ⟨k - q - 1, by omega⟩
              obtain ⟨gb, hA, hgb, hcb⟩ := HC.out q (by omega)
              have hcb2 := (hb.cell (p := ⟨gb, q, none⟩) (by have := HG.out; show gb < g; omega)).trans hcb
              cases hA
              have hfz := hblk.out.frozen x
              have hck := hblk.out.cell x
              rw [fcells_get _ _ _ _ (by omega)] at hck
              have hxI : (k : Int) - 1 - (q : Int) = (x : Int) := by omega
              have hd := dgt_lt (b := 256) (by omega) Z q
              have hwr : IntKind.u8.wrap ((dgt 256 Z q : Nat) : Int) = ((dgt 256 Z q : Nat) : Int) := by rw [wrap_u8, Nat.mod_eq_of_lt hd]
              have HX := Lib.hid hx
              clear hx hcb
              go_wp2
              have HB1 := Lib.hid (hblk.out.set_ x (.int .u8 ((dgt 256 Z q : Nat) : Int)))
              rw [fcells_set, fcells_congr (f' := madeF k Z (q + 1)) (fun j hj => madeF_step HX.out hj)] at HB1
              have hb1 := hb.setCell (p := ⟨g, x, none⟩) (Nat.le_refl _) (.int .u8 ((dgt 256 Z q : Nat) : Int))
              go_roundw
              case rel => exact ⟨q + 1, by omega, by go_num, HB1, hb1⟩
              case measure => simp [intOf]; omega
          · obtain rfl : q = k := by omega
            have hcv : (convert 64 9 (.slice (some ⟨g, 0, none⟩) q q)).run Tryz.prog wr = .ok (.string (natS Z)) wr := by
              have hN := HS.out
              have hl : ((dl 256 Z (nd 256 Z)).reverse.map UInt8.ofNat).length = q := by simp [dl_length, hN]
              have h := run_convert_bytes_back (P := Tryz.prog) wr 64 9 5 ⟨g, 0, none⟩ q ((dl 256 Z (nd 256 Z)).reverse.map UInt8.ofNat) Tryz.underlying64 Tryz.underlying5 Tryz.underlying9 (fun j hj => by
                have hj2 : j < q := by rw [← hl]; exact hj
                rw [add_plain0, hblk.out.cell, fcells_get _ _ _ _ hj2]
                have e := natS_get Z j (by rw [natS_size, hN]; exact hj2)
                rw [ba_get] at e
                simp only [natS_def] at e
                rw [List.getElem_toArray] at e
                rw [e]
                unfold madeF
                rw [if_pos (by omega), hN])
              rw [hl, ← natS_def] at h
              exact h
            go_wp2
            go_ret
            exact ⟨rfl, by rw [← HG.out]; exact hb⟩
    · obtain ⟨m, rfl⟩ : ∃ m, k = m + 1 := ⟨k - 1, by have := hle.out; omega⟩
      obtain ⟨ga, rfl, hga, hcl⟩ := HC.out m (by omega)
      rw [dgt_big (b := 256) (n := Z) (i := m) (by omega) (by have := hle.out; omega)] at hcl
      have H1 := Lib.hid (show nd 256 Z ≤ m by have := hle.out; omega)
      have hw : wrap64 ((m : Int) + 1 - 1) = (m : Int) := by rw [IntWalk.wrap64_in _ (by omega)]; omega
      clear hstop
      go_wp2
      go_roundw
      case rel => exact ⟨m, by omega, rfl, H1, trivial⟩
      case measure => simp [intOf]; try omega
end Go.Proofs.YtajcapliokblfaaGreatDoor
namespace Go.Proofs.YtajcapliokblfaaGreatDoor
open Go Go.RowKit Nt
def DigPost (l : List Nat) (w : World) (e : Ending) (w' : World) : Prop := ∃ v, e = .returned v ∧ Own w' w.heap.size 3 .i64 v l ∧ Below w.heap.size w w'
set_option maxRecDepth 100000 in
set_option maxHeartbeats 1000000 in
theorem rDigits_c (n : Nat) (w : World) (hn : nd 256 n ≤ 1000000000) :
    Calls Tryz.prog 121 #[.string (natS n)] w (DigPost (dl 256 n (nd 256 n)) w) := by
  obtain ⟨i0, hi0, hz0, hj1, hj2⟩ := info_parts (P := Tryz.prog) (e := 3) (z := .int .i64 0) (size := 1) (bytes := 8) (by kernel_rfl)
  have hsz := natS_size n
  obtain ⟨N, hN⟩ : ∃ N, N = nd 256 n := ⟨_, rfl⟩
  have hg := fun k (h : k < (natS n).size) => natS_get n k h
  rw [← hN] at hsz hn hg ⊢
  have HG := Lib.hid hg
  have HN := Lib.hid hN
  clear hN hg
  go_enter Tryz.func121, Tryz.ntmps121
  go_wp2
  go_loopw [3, 4] (fun v i wr => ∃ (k : Nat) (z : Int), k ≤ N ∧ i = .int .i64 z ∧ Hid (z = (N : Int) - 1 - (k : Int)) ∧ Hid (Own wr w.heap.size 3 .i64 v (dl 256 n k)) ∧ Below w.heap.size w wr) (fun _ i _ => (intOf i + 1).toNat)
  case atStart => exact ⟨0, _, Nat.zero_le _, rfl, Lib.hid (by first | rfl | omega | go_num), Lib.hid (Own.nil _ _ _ _), Below.refl _ _⟩
  case round =>
    obtain ⟨k, z, hk, rfl, hz, hown, hb⟩ := hrel
    by_cases h0 : k = N
    · subst h0
      obtain rfl : z = -1 := by have := hz.out; omega
      go_wp2
      go_ret
      exact ⟨_, rfl, hown.out, hb⟩
    · obtain ⟨m, hm⟩ : ∃ m, N = k + 1 + m := ⟨N - k - 1, by omega⟩
      obtain rfl : z = (m : Int) := by have := hz.out; omega
      have hms : m < (natS n).size := by omega
      have e := HG.out m hms
      rw [show N - 1 - m = k by omega] at e
      have hlt := (natS n)[m].toNat_lt
      have hw : wrap64 ((m : Int) - 1) = (m : Int) - 1 := IntWalk.wrap64_in _ (by omega)
      have hlen : Hid ((dl 256 n k).length + 1 ≤ 17592186044416) := Lib.hid (by rw [dl_length]; omega)
      have hm0 : (0 : Int) ≤ (m : Int) := by omega
      have HM := Lib.hid hm
      have HE := Lib.hid e
      have hwc : wrap64 (((natS n)[m].toNat : Nat) : Int) = (((natS n)[m].toNat : Nat) : Int) := IntWalk.wrap64_in _ (by omega)
      clear e hm h0
      go_wp2_with (at_builtin; go_loud (refine wpList_app1 wr rfl (.tmp 12) (.tmp 17) _ rfl w.heap.size 3 3 i0 .i64 8 Tryz.underlying139 hi0 hz0 hj1 hj2 (by omega) _ (dl 256 n k) (natS n)[m].toNat rfl rfl hown.out hlen.out hb.size ?_); intro v5 w5 hown5 hb5 hfr5 hnw5)
      rw [HE.out, ← dl_succ] at hown5
      have HO5 := Lib.hid hown5
      clear hown5 hfr5 hnw5
      go_roundw
      case rel => exact ⟨k + 1, _, by have := HM.out; omega, rfl, Lib.hid (by have := HM.out; omega), HO5, hb.trans hb5⟩
      case measure => simp [intOf]; try omega
set_option maxRecDepth 100000 in
theorem rAt_c (n L i B : Nat) (A : Option Addr) (c : Nat) (w : World) (hL : nd 256 n ≤ L) (hL2 : L ≤ 4000000000) (hi : i ≤ 4000000000) (h : Own w B 3 .i64 (.slice A L c) (dl 256 n L)) :
    Calls Tryz.prog 122 #[.slice A L c, .int .i64 (i : Nat)] w fun e w' => e = .returned (.int .i64 (dgt 256 n i : Nat)) ∧ w = w' := by
  by_cases hlt : i < L
  · obtain ⟨g, cap, e, _, hg, hc, hf⟩ := h.cell (j := i) (by rw [dl_length]; exact hlt)
    injection e with e1 e2 e3
    subst e1
    rw [dl_get] at hc
    generalize dgt 256 n i = d at *
    clear h e2 e3 hf
    go_enter Tryz.func122, Tryz.ntmps122
    go_wp2
    go_ret
    exact ⟨rfl, rfl⟩
  · rw [dgt_big (b := 256) (by omega) (show nd 256 n ≤ i by omega)]
    clear h hL
    go_enter Tryz.func122, Tryz.ntmps122
    go_wp2
    go_ret
    exact ⟨rfl, rfl⟩
set_option maxRecDepth 100000 in
theorem rEnded_c (n : Nat) (w : World) (hn : nd 256 n ≤ 1000000000) :
    Calls Tryz.prog 133 #[.string (natS n)] w fun e w' => e = .returned (.tuple #[.string (resS n), .int .i64 (resE n)]) ∧ w = w' := by
  have hsz := natS_size n
  by_cases h : fits n
  · have HE := Lib.hid (resE_ok h)
    have HS := Lib.hid (resS_ok h)
    have h2 : ¬ 16384 < nd 256 n := by unfold fits at h; omega
    have h3 : ¬ (16384 : Int) < (nd 256 n : Int) := by omega
    clear h
    go_enter Tryz.func133, Tryz.ntmps133
    go_wp2
    go_ret2
    exact ⟨by rw [HE.out, HS.out]; rfl, rfl⟩
  · have HE := Lib.hid (resE_no h)
    have HS := Lib.hid (resS_no h)
    have h2 : 16384 < nd 256 n := by unfold fits at h; omega
    have h3 : (16384 : Int) < (nd 256 n : Int) := by omega
    clear h
    go_enter Tryz.func133, Tryz.ntmps133
    go_wp2
    go_ret2
    exact ⟨by rw [HE.out, HS.out]; rfl, rfl⟩
end Go.Proofs.YtajcapliokblfaaGreatDoor
namespace Go.Proofs.YtajcapliokblfaaGreatDoor
open Go Go.RowKit Nt
theorem plus_num {x y k q d e : Nat} (hq : q = car 256 x y k) (hd : d = dgt 256 (x + y) k) (he : e = car 256 x y (k + 1)) :
    q ≤ 1 ∧ (q + dgt 256 x k + dgt 256 y k) % 256 = d ∧ (q + dgt 256 x k + dgt 256 y k) / 256 = e ∧ dgt 256 x k < 256 ∧ dgt 256 y k < 256 ∧ d < 256 := by
  have h1 := car_le (b := 256) (by omega) x y k
  have h2 := dgt_add (b := 256) (by omega) x y k
  have h3 := car_succ (b := 256) (by omega) x y k
  have h4 := dgt_lt (b := 256) (by omega) x k
  have h5 := dgt_lt (b := 256) (by omega) y k
  rw [← hq] at h1 h2 h3
  rw [← hd] at h2
  rw [← he] at h3
  exact ⟨h1, by omega, by omega, h4, h5, by omega⟩
theorem sum3_int {q a b d e : Nat} (h1 : (q + a + b) % 256 = d) (h2 : (q + a + b) / 256 = e) : ((q : Int) + (a : Int) + (b : Int)) % 256 = (d : Int) ∧ ((q : Int) + (a : Int) + (b : Int)).tdiv 256 = (e : Int) :=
  ⟨by omega, by rw [Int.tdiv_eq_ediv_of_nonneg (by omega)]; omega⟩
set_option maxRecDepth 100000 in
set_option maxHeartbeats 1000000 in
theorem rPlus_c (x y : Nat) (w : World) (hx : nd 256 x ≤ 900000000) (hy : nd 256 y ≤ 900000000) :
    Calls Tryz.prog 134 #[.string (natS x), .string (natS y)] w fun e w' => e = .returned (.string (natS (x + y))) ∧ Below w.heap.size w w' := by
  obtain ⟨i0, hi0, hz0, hj1, hj2⟩ := info_parts (P := Tryz.prog) (e := 3) (z := .int .i64 0) (size := 1) (bytes := 8) (by kernel_rfl)
  have KX := Lib.hid (fun w => rDigits_c x w (by omega))
  have KY := Lib.hid (fun w => rDigits_c y w (by omega))
  obtain ⟨X, hX⟩ : ∃ X, X = nd 256 x := ⟨_, rfl⟩
  obtain ⟨Y, hY⟩ : ∃ Y, Y = nd 256 y := ⟨_, rfl⟩
  obtain ⟨M, hM1, hM2, hM3⟩ : ∃ M, X ≤ M ∧ Y ≤ M ∧ M ≤ 900000000 := ⟨max X Y, by omega, by omega, by omega⟩
  rw [← hX] at KX
  rw [← hY] at KY
  have HX := Lib.hid hX
  have HY := Lib.hid hY
  clear hX hY hx hy
  go_enter Tryz.func134, Tryz.ntmps134
  go_wp2_with fail
  refine (KX.out _).mono ?_
  rintro e w1 ⟨v1, rfl, ho1, hb1⟩
  obtain ⟨A1, c1, rfl, hc1⟩ := ho1.len
  rw [dl_length] at ho1 hc1 ⊢
  have HO1 := Lib.hid ho1
  clear ho1 hc1
  go_wp2_with fail
  refine (KY.out _).mono ?_
  rintro e w2 ⟨v2, rfl, ho2, hb2⟩
  obtain ⟨A2, c2, rfl, hc2⟩ := ho2.len
  rw [dl_length] at ho2 hc2 ⊢
  have HO2 := Lib.hid ho2
  have HO3 := Lib.hid (HO1.out.whole hb2)
  have hb12 := below_chain hb1 hb2
  clear ho2 hc2 HO1 hb1
  go_wp2_with fail
  go_loopw [7, 8, 9] (fun v m i wr => ∃ (k q : Nat), k ≤ M + 1 ∧ i = .int .i64 k ∧ m = .int .i64 q ∧ Hid (q = car 256 x y k) ∧ Hid (Own wr w2.heap.size 3 .i64 v (dl 256 (x + y) k)) ∧ Below w2.heap.size w2 wr) (fun _ _ i _ => M + 1 - (intOf i).toNat)
  case atStart => exact ⟨0, 0, by omega, rfl, rfl, Lib.hid (car_zero _ _ _).symm, Lib.hid (Own.nil _ _ _ _), Below.refl _ _⟩
  case round =>
    obtain ⟨k, q, hk, rfl, rfl, hq, hown, hb⟩ := hrel
    by_cases hstop : X ≤ k ∧ Y ≤ k ∧ q = 0
    · obtain ⟨h1, h2, rfl⟩ := hstop
      have h1' : ¬ k < X := by omega
      have h2' : ¬ k < Y := by omega
      have HE := Lib.hid (plus_end (x := x) (y := y) (k := k) (by have := HX.out; omega) (by have := HY.out; omega) hq.out.symm)
      have HL : Hid ((dl 256 (x + y) k).length ≤ 1000000000) := Lib.hid (by rw [dl_length]; omega)
      go_wp2_with fail
      refine (rMade_c _ _ _ _ (dl_lt256 (x + y) k) HL.out hown.out).mono ?_
      rintro e w' ⟨rfl, hb'⟩
      go_wp2_with fail
      go_ret
      exact ⟨by rw [HE.out]; rfl, below_chain hb12 (below_chain hb hb')⟩
    · obtain ⟨d, hd⟩ : ∃ d, d = dgt 256 (x + y) k := ⟨_, rfl⟩
      obtain ⟨e, he⟩ : ∃ e, e = car 256 x y (k + 1) := ⟨_, rfl⟩
      obtain ⟨hq1, hdd, hee, ha, hbb, hd256⟩ := plus_num hq.out hd he
      have hkM : k ≤ M := by
        rcases Nat.lt_or_ge M k with c | c
        · exact absurd ⟨by omega, by omega, hq.out.trans (car_far (by have := HX.out; omega) (by have := HY.out; omega))⟩ hstop
        · exact c
      have K1 := rAt_c x X k _ A1 c1 wr (by have := HX.out; omega) (by omega) (by omega) (HO3.out.whole hb)
      have K2 := rAt_c y Y k _ A2 c2 wr (by have := HY.out; omega) (by omega) (by omega) (HO2.out.whole hb)
      generalize dgt 256 x k = a at *
      generalize dgt 256 y k = b at *
      have H1 := Lib.hid K1
      have H2 := Lib.hid K2
      have hw1 : wrap64 ((q : Int) + (a : Int)) = (q : Int) + (a : Int) := IntWalk.wrap64_in _ (by omega)
      obtain ⟨hdI, hqq⟩ := sum3_int hdd hee
      have hlen : Hid ((dl 256 (x + y) k).length + 1 ≤ 17592186044416) := Lib.hid (by rw [dl_length]; omega)
      have HD := Lib.hid hd
      have HE := Lib.hid he
      have HS := Lib.hid hstop
      clear K1 K2 hd hdd hee hstop
      have hcase : k < X ∨ (¬ k < X ∧ k < Y) ∨ (¬ k < X ∧ ¬ k < Y ∧ 0 < q) := by
        by_cases c1 : k < X
        · exact Or.inl c1
        · by_cases c2 : k < Y
          · exact Or.inr (Or.inl ⟨c1, c2⟩)
          · exact Or.inr (Or.inr ⟨c1, c2, Nat.pos_of_ne_zero (fun c3 => HS.out ⟨Nat.le_of_not_lt c1, Nat.le_of_not_lt c2, c3⟩)⟩)
      have hkb : k ≤ 900000000 := by omega
      have he1 : e ≤ 1 := he ▸ car_le (b := 256) (by omega) x y (k + 1)
      have HKM := Lib.hid hkM
      have HK := Lib.hid hk
      have HM1 := Lib.hid hM1
      have HM2 := Lib.hid hM2
      clear hkM hk hM1 hM2 hM3 he
      rcases hcase with h | ⟨h, h'⟩ | ⟨h, h', h''⟩
      all_goals
        go_wp2_with fail
        refine H1.out.mono ?_
        rintro e w' ⟨rfl, rfl⟩
        go_wp2_with fail
        refine H2.out.mono ?_
        rintro e w' ⟨rfl, rfl⟩
        go_wp2_with (at_builtin; go_loud (refine wpList_app1 wr rfl (.tmp 39) (.tmp 42) _ rfl w2.heap.size 3 3 i0 .i64 8 Tryz.underlying139 hi0 hz0 hj1 hj2 (by omega) _ (dl 256 (x + y) k) d rfl rfl hown.out hlen.out hb.size ?_); intro v5 w5 hown5 hb5 hfr5 hnw5)
        rw [HD.out, ← dl_succ] at hown5
        have HO5 := Lib.hid hown5
        clear hown5 hfr5 hnw5
        go_roundw
        case rel => exact ⟨k + 1, _, by have := HKM.out; omega, by go_num, rfl, HE, HO5, hb.trans hb5⟩
        case measure =>
          have := HKM.out
          clear hdI hqq hw1 hq1
          simp [intOf]; omega
end Go.Proofs.YtajcapliokblfaaGreatDoor
namespace Go.Proofs.YtajcapliokblfaaGreatDoor
open Go Go.RowKit Nt
set_option maxRecDepth 100000 in
set_option maxHeartbeats 1000000 in
theorem rSub_ge (x y : Nat) (w : World) (hx : fits x) (hy : fits y) (h : y ≤ x) :
    Calls Tryz.prog 85 #[.string (natS x), .string (natS y)] w (StrPost (natS (x - y)) 0 w) := by
  obtain ⟨i0, hi0, hz0, hj1, hj2⟩ := info_parts (P := Tryz.prog) (e := 3) (z := .int .i64 0) (size := 1) (bytes := 8) (by kernel_rfl)
  have KC := Lib.hid (fun w => rCmp_c x y w hx hy)
  obtain ⟨cc, hcc, hcc0⟩ : ∃ cc : Int, cmpN x y = cc ∧ ¬ cc < 0 := by
    rcases Nat.lt_or_ge y x with c | c
    · exact ⟨1, cmpN_gt c, by omega⟩
    · obtain rfl : x = y := by omega
      exact ⟨0, cmpN_eq _, by omega⟩
  rw [hcc] at KC
  have hxn : nd 256 x ≤ 16384 := hx
  have hyn : nd 256 y ≤ 16384 := hy
  have KX := Lib.hid (fun w => rDigits_c x w (by omega))
  have KY := Lib.hid (fun w => rDigits_c y w (by omega))
  obtain ⟨X, hX⟩ : ∃ X, X = nd 256 x := ⟨_, rfl⟩
  obtain ⟨Y, hY⟩ : ∃ Y, Y = nd 256 y := ⟨_, rfl⟩
  have hEnd := sub_end h
  rw [← hX] at KX hxn hEnd
  rw [← hY] at KY hyn
  have HX := Lib.hid hX
  have HY := Lib.hid hY
  have HEND := Lib.hid hEnd
  have HLE := Lib.hid h
  clear hX hY hx hy hcc h hEnd
  go_enter Tryz.func85, Tryz.ntmps85
  go_wp2_with fail
  refine (KC.out _).mono ?_
  rintro e w0 ⟨rfl, hd0⟩
  have hb0 := drawn_below hd0
  clear hd0
  go_wp2_with fail
  refine (KX.out _).mono ?_
  rintro e w1 ⟨v1, rfl, ho1, hb1⟩
  obtain ⟨A1, c1, rfl, hc1⟩ := ho1.len
  rw [dl_length] at ho1 hc1 ⊢
  have HO1 := Lib.hid ho1
  clear ho1 hc1
  go_wp2_with fail
  refine (KY.out _).mono ?_
  rintro e w2 ⟨v2, rfl, ho2, hb2⟩
  obtain ⟨A2, c2, rfl, hc2⟩ := ho2.len
  rw [dl_length] at ho2 hc2 ⊢
  have HO2 := Lib.hid ho2
  have HO3 := Lib.hid (HO1.out.whole hb2)
  have hb12 := below_chain hb0 (below_chain hb1 hb2)
  clear ho2 hc2 HO1 hb1 hb0
  go_wp2_with fail
  go_loopw [8, 9, 10] (fun v m i wr => ∃ (k q : Nat), k ≤ X ∧ i = .int .i64 k ∧ m = .int .i64 q ∧ Hid (q = bor 256 x y k) ∧ Hid (Own wr w2.heap.size 3 .i64 v (dl 256 (x - y) k)) ∧ Below w2.heap.size w2 wr) (fun _ _ i _ => X - (intOf i).toNat)
  case atStart => exact ⟨0, 0, by omega, rfl, rfl, Lib.hid (bor_zero _ _ _).symm, Lib.hid (Own.nil _ _ _ _), Below.refl _ _⟩
  case round =>
    obtain ⟨k, q, hk, rfl, rfl, hq, hown, hb⟩ := hrel
    by_cases hlt : k < X
    · obtain ⟨d, hd⟩ : ∃ d, d = dgt 256 (x - y) k := ⟨_, rfl⟩
      obtain ⟨st1, st2⟩ := sub_step x y k HLE.out
      rw [← hq.out, ← hd] at st1 st2
      have ha := dgt_lt (b := 256) (by omega) x k
      have hb' := dgt_lt (b := 256) (by omega) y k
      have hd2 := dgt_lt (b := 256) (by omega) (x - y) k
      have hq1 := bor_le 256 x y k
      rw [← hd] at hd2
      rw [← hq.out] at hq1
      obtain ⟨g, cap, e1, _, hg, hcell, hfz⟩ := (HO3.out.whole hb).cell (j := k) (by rw [dl_length]; exact hlt)
      injection e1 with e1 e2 e3
      subst e1
      rw [dl_get] at hcell
      have K2 := fun m => rAt_c y Y k _ A2 c2 (wr.drewN m) (by have := HY.out; omega) (by omega) (by omega) ((HO2.out.whole hb).drewN m)
      generalize dgt 256 x k = a at *
      generalize dgt 256 y k = b at *
      have H2 := Lib.hid K2
      have HD := Lib.hid hd
      have hlen : Hid ((dl 256 (x - y) k).length + 1 ≤ 17592186044416) := Lib.hid (by rw [dl_length]; omega)
      have hw1 : IntKind.i64.wrap ((a : Int) - (b : Int)) = (a : Int) - (b : Int) := IntWalk.i64_in _ (by omega)
      have hw2 : IntKind.i64.wrap ((a : Int) - (b : Int) - (q : Int)) = (a : Int) - (b : Int) - (q : Int) := IntWalk.i64_in _ (by omega)
      clear K2 hd hfz e2 e3
      have hkb : k ≤ 20000 := by omega
      have HKX := Lib.hid hlt
      have HST1 := Lib.hid st1
      have HST2 := Lib.hid st2
      clear st1 st2 hk
      by_cases hc : a < b + q
      · obtain ⟨s1, s2⟩ := HST1.out hc
        have HB := Lib.hid s2.symm
        have hdd : (a : Int) - (b : Int) - (q : Int) + 256 = (d : Int) := by omega
        have hneg : (a : Int) - (b : Int) - (q : Int) < 0 := by omega
        clear s1 s2 hc
        go_wp2_with fail
        go_quiet ((go_at_call 122; exact Calls.quiet_of_same ((H2.out _).mono fun _ _ h => ⟨h.1, h.2.symm⟩)))
        rename_i nq
        have hbq := below_drewN hb nq
        have hownq := Lib.hid (hown.out.drewN nq)
        generalize wr.drewN nq = wq at *
        go_wp2_with (at_builtin; go_loud (refine wpList_app1 wq rfl (.tmp 40) (.tmp 42) _ rfl w2.heap.size 3 3 i0 .i64 8 Tryz.underlying139 hi0 hz0 hj1 hj2 (by omega) _ (dl 256 (x - y) k) d rfl rfl hownq.out hlen.out hbq.size ?_); intro v5 w5 hown5 hb5 hfr5 hnw5)
        rw [HD.out, ← dl_succ] at hown5
        have HO5 := Lib.hid hown5
        clear hown5 hfr5 hnw5
        go_roundw
        case rel => exact ⟨k + 1, 1, by have := HKX.out; omega, by go_num, rfl, HB, HO5, hbq.trans hb5⟩
        case measure =>
          have := HKX.out
          clear hw1 hw2 hdd hneg
          simp [intOf]; omega
      · obtain ⟨s1, s2⟩ := HST2.out hc
        have HB := Lib.hid s2.symm
        have hdz : (a : Int) - (b : Int) - (q : Int) = (d : Int) := by omega
        have hd0 : ¬ (d : Int) < 0 := by omega
        clear s1 s2 hc
        go_wp2_with fail
        go_quiet ((go_at_call 122; exact Calls.quiet_of_same ((H2.out _).mono fun _ _ h => ⟨h.1, h.2.symm⟩)))
        rename_i nq
        have hbq := below_drewN hb nq
        have hownq := Lib.hid (hown.out.drewN nq)
        generalize wr.drewN nq = wq at *
        go_wp2_with (at_builtin; go_loud (refine wpList_app1 wq rfl (.tmp 40) (.tmp 42) _ rfl w2.heap.size 3 3 i0 .i64 8 Tryz.underlying139 hi0 hz0 hj1 hj2 (by omega) _ (dl 256 (x - y) k) d rfl rfl hownq.out hlen.out hbq.size ?_); intro v5 w5 hown5 hb5 hfr5 hnw5)
        rw [HD.out, ← dl_succ] at hown5
        have HO5 := Lib.hid hown5
        clear hown5 hfr5 hnw5
        go_roundw
        case rel => exact ⟨k + 1, 0, by have := HKX.out; omega, by go_num, rfl, HB, HO5, hbq.trans hb5⟩
        case measure =>
          have := HKX.out
          clear hw1 hw2 hdz
          simp [intOf]; omega
    · obtain rfl : k = X := by omega
      have HL : Hid ((dl 256 (x - y) k).length ≤ 1000000000) := Lib.hid (by rw [dl_length]; omega)
      go_wp2_with fail
      refine (rMade_c _ _ _ _ (dl_lt256 (x - y) k) HL.out hown.out).mono ?_
      rintro e w' ⟨rfl, hb'⟩
      go_wp2_with fail
      go_ret2
      exact ⟨by rw [HEND.out]; rfl, below_chain hb12 (below_chain hb hb')⟩
end Go.Proofs.YtajcapliokblfaaGreatDoor
namespace Go.Proofs.YtajcapliokblfaaGreatDoor
open Go Go.RowKit Nt
def dcells (n L : Nat) : Array Value := fcells .i64 (dgt 256 n) L
theorem dcells_get (n L j : Nat) (h : j < L) : (dcells n L)[j]? = some (.int .i64 (dgt 256 n j : Nat)) := fcells_get _ _ _ _ h
theorem dcells_set (n L i v : Nat) (hv : v < 256) : (dcells n L).setIfInBounds i (.int .i64 (v : Nat)) = dcells (put 256 n i v) L := by
  unfold dcells
  rw [fcells_set]
  exact fcells_congr fun j _ => (dgt_put (by omega) n i v j hv).symm
theorem dcells_made (L : Nat) : madeCells #[.int .i64 0] L = dcells 0 L := by
  unfold dcells
  rw [fcells_made]
  exact fcells_congr fun j _ => by rw [dgt_def, Nat.zero_div]
theorem fcells_list (k : IntKind) (f : Nat → Nat) (L : Nat) : (fcells k f L).toList = (((List.range L).map f).map (fun (x : Nat) => Value.int k (x : Int))) := by
  unfold fcells; rw [List.map_map]; rfl
theorem Own.of_fcells {w : World} {B g : Nat} {T : TypeId} {k : IntKind} {f : Nat → Nat} {L : Nat} (h : Blk w g T (fcells k f L)) (hB : B ≤ g) (hL : L ≤ 1000000000) :
    Own w B T k (.slice (some ⟨g, 0, none⟩) L L) ((List.range L).map f) := by
  have hlen : ((List.range L).map f).length = L := by simp
  unfold Own
  rw [hlen]
  refine ⟨by simp, Or.inr ⟨g, L, fcells k f L, rfl, hB, h, Nat.le_refl _, by unfold maxLen; omega, by rw [fcells_size, Nat.mul_one], ?_⟩⟩
  rw [fcells_list, Nat.mul_one]
  exact List.take_of_length_le (by simp)
set_option maxRecDepth 100000 in
set_option maxHeartbeats 1000000 in
theorem rTimes_c (x y : Nat) (w : World) (hx : nd 256 x ≤ 100000000) (hy : nd 256 y ≤ 100000000) :
    Calls Tryz.prog 144 #[.string (natS x), .string (natS y)] w fun e w' => e = .returned (.string (natS (x * y))) ∧ Below w.heap.size w w' := by
  obtain ⟨i0, hi0, hz0, hj1, hj2⟩ := info_parts (P := Tryz.prog) (e := 3) (z := .int .i64 0) (size := 1) (bytes := 8) (by kernel_rfl)
  have KX := Lib.hid (fun w => rDigits_c x w (by omega))
  have KY := Lib.hid (fun w => rDigits_c y w (by omega))
  obtain ⟨X, hX⟩ : ∃ X, X = nd 256 x := ⟨_, rfl⟩
  obtain ⟨Y, hY⟩ : ∃ Y, Y = nd 256 y := ⟨_, rfl⟩
  obtain ⟨L, hL⟩ : ∃ L, L = X + Y + 1 := ⟨_, rfl⟩
  rw [← hX] at KX hx
  rw [← hY] at KY hy
  have HX := Lib.hid hX
  have HY := Lib.hid hY
  have HL := Lib.hid hL
  have hLI : ((X : Int) + (Y : Int) + 1) = (L : Int) := by omega
  have hL2 : L ≤ 300000000 := by omega
  clear hX hY hL
  go_enter Tryz.func144, Tryz.ntmps144
  go_wp2_with fail
  refine (KX.out _).mono ?_
  rintro e w1 ⟨v1, rfl, ho1, hb1⟩
  obtain ⟨A1, c1, rfl, hc1⟩ := ho1.len
  rw [dl_length] at ho1 hc1 ⊢
  have HO1 := Lib.hid ho1
  clear ho1 hc1
  go_wp2_with fail
  refine (KY.out _).mono ?_
  rintro e w2 ⟨v2, rfl, ho2, hb2⟩
  obtain ⟨A2, c2, rfl, hc2⟩ := ho2.len
  rw [dl_length] at ho2 hc2 ⊢
  have HO2 := Lib.hid ho2
  have HO3 := Lib.hid (HO1.out.whole hb2)
  have hb12 := below_chain hb1 hb2
  clear ho2 hc2 HO1 hb1
  go_wp2_with (at_make; go_loud (refine wpList_make_zero _ rfl _ _ _ rfl 3 i0 _ Tryz.underlying139 hi0 hz0 hj1 .i64 .i64 _ _ L rfl rfl (by omega) (by omega) (by rw [hj2]; omega) (by unfold maxLen; omega) ?_))
  rw [dcells_made]
  have HB0 := Lib.hid (Blk.new w2 3 (dcells 0 L))
  have hbl : Below w2.heap.size w2 (w2.alloc (.cells (dcells 0 L) 3)) := (Below.refl _ _).alloc (Nat.le_refl _) _
  generalize w2.alloc (.cells (dcells 0 L) 3) = w3 at *
  obtain ⟨g, hg⟩ : ∃ g, g = w2.heap.size := ⟨_, rfl⟩
  rw [← hg] at HB0 hbl ⊢
  have HG := Lib.hid hg
  clear hg
  go_loopw [8] (fun i wr => ∃ (k Z : Nat), k ≤ X ∧ i = .int .i64 k ∧ Hid (Z = x % 256 ^ k * y) ∧ Hid (Blk wr g 3 (dcells Z L)) ∧ Below g w2 wr) (fun i _ => X - (intOf i).toNat)
  case atStart => exact ⟨0, 0, by omega, rfl, Lib.hid (by rw [Nat.pow_zero, Nat.mod_one, Nat.zero_mul]), HB0, hbl⟩
  case round =>
    obtain ⟨i, Z, hi, rfl, hZ, hblk, hb⟩ := hrel
    by_cases hlt : i < X
    · have ha := dgt_lt (b := 256) (by omega) x i
      have HT := Lib.hid (tms_first x y i)
      rw [← hZ.out] at HT
      go_wp2_with fail
      go_loopw [9, 10] (fun m kk wr' => ∃ (k q Z' : Nat), k ≤ Y + 1 ∧ kk = .int .i64 k ∧ m = .int .i64 q ∧ q ≤ 255 ∧ Hid (tms x y i k Z' q) ∧ Hid (Blk wr' g 3 (dcells Z' L)) ∧ Below g w2 wr') (fun _ kk _ => Y + 1 - (intOf kk).toNat)
      case atStart => exact ⟨0, 0, Z, by omega, rfl, rfl, by omega, HT, hblk, hb⟩
      case round =>
        obtain ⟨k, q, Z', hk, rfl, rfl, hq, htm, hblk', hbw⟩ := hrel
        by_cases hstop : Y ≤ k ∧ q = 0
        · obtain ⟨h1, rfl⟩ := hstop
          have h1' : ¬ k < Y := by omega
          have HN := Lib.hid (tms_last htm.out (by have := HY.out; omega))
          go_wp2_with fail
          go_roundw
          case rel => exact ⟨i + 1, Z', by omega, by go_num, HN, hblk', hbw⟩
          case measure => simp [intOf]; omega
        · have hkY : k ≤ Y := by
            rcases Nat.lt_or_ge Y k with c | c
            · have := tms_more htm.out (by have := HY.out; omega) (fun c2 => hstop ⟨by omega, c2⟩)
              have := HY.out; omega
            · exact c
          obtain ⟨p, hp⟩ : ∃ p, p = i + k := ⟨_, rfl⟩
          have hpI : (i : Int) + (k : Int) = (p : Int) := by omega
          have hpL : p < L := by have := HL.out; omega
          have hzd := dgt_lt (b := 256) (by omega) Z' p
          have hyd := dgt_lt (b := 256) (by omega) y k
          have hcz := hblk'.out.cell p
          rw [dcells_get _ _ _ hpL] at hcz
          have hfz := hblk'.out.frozen p
          obtain ⟨ga, cap, e1, _, hga, hcx, hfx⟩ := (HO3.out.below hbw (fun g' e => by have := (HO3.out.lt g' e).2; have := HG.out; omega)).cell (j := i) (by rw [dl_length]; exact hlt)
          injection e1 with e1 e2 e3
          subst e1
          rw [dl_get] at hcx
          have K2 := fun m => rAt_c y Y k _ A2 c2 (wr.drewN m) (by have := HY.out; omega) (by omega) (by omega) ((HO2.out.below hbw (fun g' e => by have := (HO2.out.lt g' e).2; have := HG.out; omega)).drewN m)
          obtain ⟨s, hs⟩ : ∃ s, s = q + dgt 256 Z' p + dgt 256 x i * dgt 256 y k := ⟨_, rfl⟩
          have hst := tms_step htm.out (s := s) (by rw [hs, hp])
          rw [← hp] at hst
          have hsm := tms_next hq hzd ha hyd
          rw [← hs] at hsm
          have HST := Lib.hid hst
          have HP := Lib.hid hp
          generalize dgt 256 Z' p = z at *
          generalize dgt 256 y k = b at *
          generalize dgt 256 x i = a at *
          obtain ⟨ab, hab⟩ : ∃ ab, ab = a * b := ⟨_, rfl⟩
          have habI : (a : Int) * (b : Int) = (ab : Int) := by rw [hab, Int.natCast_mul]
          rw [← hab] at hsm hs
          have hsI : (q : Int) + (z : Int) + (ab : Int) = (s : Int) := by omega
          have hw1 : IntKind.i64.wrap ((i : Int) + (k : Int)) = (p : Int) := by rw [IntWalk.i64_in _ (by omega)]; omega
          have hw3 : IntKind.i64.wrap ((a : Int) * (b : Int)) = (ab : Int) := by rw [habI, IntWalk.i64_in _ (by omega)]
          obtain ⟨r, hr⟩ : ∃ r, r = s % 256 := ⟨_, rfl⟩
          obtain ⟨e, he⟩ : ∃ e, e = s / 256 := ⟨_, rfl⟩
          have hrI : (s : Int) % 256 = (r : Int) := by omega
          have heI : (s : Int).tdiv 256 = (e : Int) := by rw [Int.tdiv_eq_ediv_of_nonneg (by omega)]; omega
          have hr2 : r < 256 := by omega
          have he2 : e ≤ 255 := by omega
          have hs2 : s ≤ 65535 := hsm.1
          rw [← hr, ← he] at HST
          have hkb : k ≤ 100000000 := by omega
          have hib : i ≤ 100000000 := by omega
          have hab2 : ab ≤ 65025 := hsm.2.2
          have hp0 : (0 : Int) ≤ (p : Int) := by omega
          have hptn : ((p : Int)).toNat = p := Int.toNat_natCast p
          have H2 := Lib.hid K2
          have HS := Lib.hid hs
          have HAB := Lib.hid hab
          have HSTOP := Lib.hid hstop
          have hcase : k < Y ∨ (¬ k < Y ∧ 0 < q) := by
            by_cases c : k < Y
            · exact Or.inl c
            · exact Or.inr ⟨c, Nat.pos_of_ne_zero (fun c2 => HSTOP.out ⟨Nat.le_of_not_lt c, c2⟩)⟩
          have HPL := Lib.hid hpL
          have HKY := Lib.hid hkY
          have HLT := Lib.hid hlt
          clear K2 hst hp hs hab hstop hfx e2 e3 hr he hsm
          rcases hcase with h | ⟨h, h'⟩
          all_goals
            go_wp2_with fail
            go_quiet ((go_at_call 122; exact Calls.quiet_of_same ((H2.out _).mono fun _ _ h => ⟨h.1, h.2.symm⟩)))
            rename_i nq
            have hbq := below_drewN hbw nq
            have hblkq := Lib.hid (hblk'.out.drewN nq)
            have hfq : (wr.drewN nq).frozen? ⟨g, p, none⟩ = false := hfz
            have hczq : (wr.drewN nq).cell? ⟨g, p, none⟩ = some (.int .i64 (z : Nat)) := hcz
            generalize wr.drewN nq = wq at *
            have HB1 := hblkq.out.set_ p (.int .i64 ((r : Nat) : Int))
            rw [dcells_set _ _ _ _ hr2] at HB1
            have HB2 := Lib.hid HB1
            have hb1 := hbq.setCell (p := ⟨g, p, none⟩) (Nat.le_refl _) (.int .i64 ((r : Nat) : Int))
            clear HB1
            go_wp2_with fail
            go_roundw
            case rel => exact ⟨k + 1, e, put 256 Z' p r, by have := HKY.out; omega, by go_num, rfl, he2, HST, HB2, hb1⟩
            case measure =>
              have := HKY.out
              clear hw1 hw3 hrI heI hsI habI hpI hptn hLI
              simp [intOf]; omega
    · obtain rfl : i = X := by omega
      have hE := hZ.out
      rw [HX.out, tms_all] at hE
      have hof : of 256 (dl 256 Z L) = x * y := by rw [hE, HL.out, HX.out, HY.out]; exact tms_fits x y
      have HOF := Lib.hid hof
      have HLL : Hid ((dl 256 Z L).length ≤ 1000000000) := Lib.hid (by rw [dl_length]; omega)
      have HO : Hid (Own wr g 3 .i64 (.slice (some ⟨g, 0, none⟩) L L) (dl 256 Z L)) := Lib.hid (Own.of_fcells hblk.out (Nat.le_refl _) (by omega))
      have hbc : Below w.heap.size w wr := below_chain hb12 (by have h := HG.out; rw [h] at hb; exact hb)
      clear hE hof hb
      go_wp2_with fail
      refine (rMade_c _ _ _ _ (dl_lt256 Z L) HLL.out HO.out).mono ?_
      rintro e w' ⟨rfl, hb'⟩
      go_wp2_with fail
      go_ret
      exact ⟨by rw [HOF.out]; rfl, below_chain hbc hb'⟩
set_option maxRecDepth 100000 in
theorem rMul_c (x y : Nat) (w : World) (hx : nd 256 x ≤ 100000000) (hy : nd 256 y ≤ 100000000) (hz : 16385 < nd 256 x + nd 256 y → x ≠ 0 ∧ y ≠ 0) :
    Calls Tryz.prog 119 #[.string (natS x), .string (natS y)] w (StrPost (resS (x * y)) (resE (x * y)) w) := by
  have hsx := natS_size x
  have hsy := natS_size y
  have hm : nd 256 (x * y) ≤ nd 256 x + nd 256 y := by
    refine nd_le (by omega) ?_
    have h := Nat.mul_lt_mul'' (lt_nd (b := 256) (n := x) (by omega)) (lt_nd (b := 256) (n := y) (by omega))
    rwa [← Nat.pow_add] at h
  by_cases h : 16385 < nd 256 x + nd 256 y
  · obtain ⟨h0, h1⟩ := hz h
    have hno : ¬ fits (x * y) := fun c => by
      have hx2 : nd 256 x ≠ 0 := fun d => h0 ((nd_eq_zero (by omega)).1 d)
      have hy2 : nd 256 y ≠ 0 := fun d => h1 ((nd_eq_zero (by omega)).1 d)
      have hx1 : 256 ^ (nd 256 x - 1) ≤ x := (pow_le_iff (by omega) _ _).2 (by omega)
      have hy1 : 256 ^ (nd 256 y - 1) ≤ y := (pow_le_iff (by omega) _ _).2 (by omega)
      have h2 := Nat.mul_le_mul hx1 hy1
      rw [← Nat.pow_add] at h2
      have h3 := (pow_le_iff (b := 256) (by omega) _ _).1 h2
      unfold fits at c
      omega
    have HE := Lib.hid (resE_no hno)
    have HS := Lib.hid (resS_no hno)
    have h2 : (16385 : Int) < (nd 256 x : Int) + (nd 256 y : Int) := by omega
    clear hm hno hz h0 h1
    go_enter Tryz.func119, Tryz.ntmps119
    go_wp2_with fail
    go_ret2
    exact ⟨by rw [HE.out, HS.out]; rfl, Below.refl _ _⟩
  · have KT := Lib.hid (fun w => rTimes_c x y w hx hy)
    have KE := Lib.hid (fun w => rEnded_c (x * y) w (by omega))
    have h2 : ¬ (16385 : Int) < (nd 256 x : Int) + (nd 256 y : Int) := by omega
    clear hm hz
    go_enter Tryz.func119, Tryz.ntmps119
    go_wp2_with fail
    refine (KT.out _).mono ?_
    rintro e w1 ⟨rfl, hb1⟩
    go_wp2_with fail
    refine (KE.out _).mono ?_
    rintro e w2 ⟨rfl, rfl⟩
    go_wp2_with fail
    go_ret2
    exact ⟨rfl, hb1⟩
end Go.Proofs.YtajcapliokblfaaGreatDoor
namespace Go.Proofs.YtajcapliokblfaaGreatDoor
open Go Go.RowKit Nt
theorem two_cells_set (q v : Nat) : (fcells .i64 (fun _ => 0) (q + 1)).setIfInBounds q (.int .i64 (v : Nat)) = fcells .i64 (fun j => if j = q then v else 0) (q + 1) := by
  rw [fcells_set]
theorem made_fc (k : IntKind) (L : Nat) : madeCells (Value.cells (.int k 0)) (L * 1) = fcells k (fun _ => 0) L := by rw [Nat.mul_one]; exact fcells_made _ _
set_option maxRecDepth 100000 in
theorem rTwo_c (n : Nat) (w : World) (hn : n ≤ 1000000) :
    Calls Tryz.prog 120 #[.int .i64 (n : Nat)] w fun e w' => e = .returned (.string (natS (2 ^ n))) ∧ Below w.heap.size w w' := by
  obtain ⟨i0, hi0, hz0, hj1, hj2⟩ := info_parts (P := Tryz.prog) (e := 3) (z := .int .i64 0) (size := 1) (bytes := 8) (by kernel_rfl)
  obtain ⟨q, hq⟩ : ∃ q, q = n / 8 := ⟨_, rfl⟩
  obtain ⟨r, hr⟩ : ∃ r, r = n % 8 := ⟨_, rfl⟩
  have hof := two_of n
  rw [← hq, ← hr] at hof
  have hqI : (n : Int).tdiv 8 = (q : Int) := by rw [Int.tdiv_eq_ediv_of_nonneg (by omega)]; omega
  have hrI : (n : Int) % 8 = (r : Int) := by omega
  have hr8 : r < 8 := by omega
  have hq2 : q ≤ 125000 := by omega
  have hpow : 2 ^ r < 256 := by
    have := Nat.pow_lt_pow_right (show 1 < 2 by omega) hr8
    omega
  obtain ⟨p, hp⟩ : ∃ p, p = 2 ^ r := ⟨_, rfl⟩
  rw [← hp] at hof hpow
  have hpI : (2 : Int) ^ r = (p : Int) := by rw [hp]; exact (Int.natCast_pow 2 r).symm
  have HOF := Lib.hid hof
  have HPOW := Lib.hid hpow
  have HQ := Lib.hid hq
  have HS : ∀ w1 : World, Blk w1 w.heap.size 3 (fcells .i64 (fun _ => 0) (q + 1)) → w1.cell? ⟨w.heap.size, q, none⟩ = some (.int .i64 0) ∧ w1.frozen? ⟨w.heap.size, q, none⟩ = false := fun w1 h =>
    ⟨by rw [h.cell, fcells_get _ _ _ _ (by omega)]; rfl, h.frozen q⟩
  have HC := Lib.hid HS
  clear hof hq hr hp HS
  go_enter Tryz.func120, Tryz.ntmps120
  go_wp2_with (at_make; go_loud ((refine wpList_make_zero _ rfl _ _ _ rfl 3 i0 _ Tryz.underlying139 hi0 hz0 hj1 .i64 .i64 _ _ (q + 1) rfl rfl (by omega) (by omega) (by rw [hj2]; omega) (by unfold maxLen; omega) ?_); rw [made_fc]; have HB0 := Lib.hid (Blk.new w 3 (fcells .i64 (fun _ => 0) (q + 1))); have hbl : Below w.heap.size w (w.alloc (.cells (fcells .i64 (fun _ => 0) (q + 1)) 3)) := (Below.refl _ _).alloc (Nat.le_refl _) _; generalize w.alloc (.cells (fcells .i64 (fun _ => 0) (q + 1)) 3) = w3 at *; obtain ⟨hcz, hfz⟩ := HC.out w3 HB0.out))
  all_goals
    have HB1 := HB0.out.set_ q (.int .i64 ((p : Nat) : Int))
    rw [two_cells_set] at HB1
    have HO : Hid (Own (w3.setCell ⟨w.heap.size, q, none⟩ (.int .i64 ((p : Nat) : Int))) w.heap.size 3 .i64 (.slice (some ⟨w.heap.size, 0, none⟩) (q + 1) (q + 1)) ((List.range (q + 1)).map fun j => if j = q then p else 0)) := Lib.hid (Own.of_fcells HB1 (Nat.le_refl _) (by omega))
    have HLL : Hid (((List.range (q + 1)).map fun j => if j = q then p else 0).length ≤ 1000000000) := Lib.hid (by rw [List.length_map, List.length_range]; omega)
    have HLT : Hid (∀ x ∈ (List.range (q + 1)).map fun j => if j = q then p else 0, x < 256) := Lib.hid (fun x hx => by
      obtain ⟨j, _, rfl⟩ := List.mem_map.1 hx
      have := HPOW.out
      split <;> omega)
    have hb1 := hbl.setCell (p := ⟨w.heap.size, q, none⟩) (Nat.le_refl _) (.int .i64 ((p : Nat) : Int))
    have KM := rMade_c _ _ _ _ HLT.out (by have := HLL.out; rw [List.length_map, List.length_range] at *; omega) HO.out
    rw [HOF.out] at KM
    refine KM.mono ?_
    rintro e w' ⟨rfl, hb'⟩
    go_wp2_with fail
    go_ret
    exact ⟨rfl, below_chain hb1 hb'⟩
theorem two_nd (n : Nat) : nd 256 (2 ^ n) ≤ n / 8 + 1 := by
  refine nd_le (by omega) ?_
  rw [show (256 : Nat) = 2 ^ 8 by rfl, ← Nat.pow_mul]
  exact Nat.pow_lt_pow_right (by omega) (by omega)
theorem nd_two_big {a n : Nat} (e : Nat) (h : 8 * e ≤ n) (ha : a ≠ 0) : e < nd 256 (a * 2 ^ n) := by
  refine (pow_le_iff (b := 256) (by omega) e _).1 ?_
  have h4 : 2 ^ n ≤ a * 2 ^ n := Nat.le_mul_of_pos_left _ (by omega)
  refine Nat.le_trans ?_ h4
  rw [show (256 : Nat) = 2 ^ 8 by rfl, ← Nat.pow_mul]
  exact Nat.pow_le_pow_right (by omega) h
set_option maxRecDepth 100000 in
theorem rShift_same (a : Nat) (n : Int) (w : World) (h : a = 0 ∨ n = 0) :
    Calls Tryz.prog 66 #[.string (natS a), .int .i64 n] w (StrPost (natS a) 0 w) := by
  by_cases h0 : a = 0
  · subst h0
    have hE := natS_empty (n := 0) rfl
    clear h
    go_enter Tryz.func66, Tryz.ntmps66
    go_wp2_with fail
    go_ret2
    exact ⟨rfl, Below.refl _ _⟩
  · obtain rfl : n = 0 := by rcases h with h | h; exact absurd h h0; exact h
    have hE := natS_full h0
    have hE2 := natS_full2 h0
    clear h h0
    go_enter Tryz.func66, Tryz.ntmps66
    go_wp2_with fail
    go_ret2
    exact ⟨rfl, Below.refl _ _⟩
set_option maxRecDepth 100000 in
theorem rShift_up (a n : Nat) (w : World) (h0 : a ≠ 0) (hn : n ≠ 0) (hf : fits a) :
    Calls Tryz.prog 66 #[.string (natS a), .int .i64 (n : Nat)] w (StrPost (resS (a * 2 ^ n)) (resE (a * 2 ^ n)) w) := by
  have hE := natS_full h0
  have hE2 := natS_full2 h0
  have h1 : ¬ (n : Int) = 0 := by omega
  have h2 : ((n : Int) == 0) = false := by rw [beq_eq_false_iff_ne]; exact h1
  have h3 : (0 : Int) < (n : Int) := by omega
  by_cases hl : 131072 < n
  · have hno : ¬ fits (a * 2 ^ n) := fun c => by
      have h6 := nd_two_big (a := a) (n := n) 16384 (by omega) h0
      unfold fits at c; omega
    have HE := Lib.hid (resE_no hno)
    have HS := Lib.hid (resS_no hno)
    have hl' : (131072 : Int) < (n : Int) := by omega
    clear hno h0 hn hf
    go_enter Tryz.func66, Tryz.ntmps66
    go_wp2_with fail
    go_ret2
    exact ⟨by rw [HE.out, HS.out]; rfl, Below.refl _ _⟩
  · have KT := Lib.hid (fun w => rTwo_c n w (by omega))
    have KM := Lib.hid (fun w => rMul_c a (2 ^ n) w (by unfold fits at hf; omega) (by have := two_nd n; omega) (fun _ => ⟨h0, by have := Nat.two_pow_pos n; omega⟩))
    have hl' : ¬ (131072 : Int) < (n : Int) := by omega
    clear h0 hn hf
    go_enter Tryz.func66, Tryz.ntmps66
    go_wp2_with fail
    refine (KT.out _).mono ?_
    rintro e w1 ⟨rfl, hb1⟩
    go_wp2_with fail
    refine (KM.out _).mono ?_
    rintro e w2 ⟨rfl, hb2⟩
    go_wp2_with fail
    go_ret2
    exact ⟨rfl, below_chain hb1 hb2⟩
end Go.Proofs.YtajcapliokblfaaGreatDoor
namespace Go.Proofs.YtajcapliokblfaaGreatDoor
open Go Go.RowKit Nt
def pre (a N i : Nat) : Nat := a / 256 ^ (N - i)
theorem pre_all (a N : Nat) : pre a N N = a := by unfold pre; rw [Nat.sub_self, Nat.pow_zero, Nat.div_one]
theorem pre_succ {a N i j : Nat} (h : N = i + 1 + j) : pre a N (i + 1) = 256 * pre a N i + dgt 256 a j := by
  unfold pre
  rw [show N - (i + 1) = j by omega, show N - i = j + 1 by omega, div_eq_dgt (b := 256) (by omega) a j]
  omega
theorem pre_nd {a N i : Nat} (hN : nd 256 a = N) (hi : i ≤ N) : nd 256 (pre a N i) ≤ i := by
  unfold pre
  refine nd_le (by omega) ?_
  rw [Nat.div_lt_iff_lt_mul (Nat.pow_pos (by omega)), ← Nat.pow_add, show i + (N - i) = N by omega, ← hN]
  exact lt_nd (by omega)
theorem pre_dgt {a N i j : Nat} (h : N = i + 1 + j) (b : Nat) : dgt 256 (a / b) j = pre a N (i + 1) / b % 256 := by
  unfold pre
  rw [show N - (i + 1) = j by omega, dgt_def, Nat.div_div_eq_div_mul, Nat.div_div_eq_div_mul, Nat.mul_comm]
theorem pre_step {a N i j b : Nat} (h : N = i + 1 + j) (hb : 0 < b) : (256 * (pre a N i % b) + dgt 256 a j) / b = dgt 256 (a / b) j ∧ (256 * (pre a N i % b) + dgt 256 a j) % b = pre a N (i + 1) % b ∧ dgt 256 (a / b) j < 256 := by
  have hd := dgt_lt (b := 256) (by omega) a j
  have h1 := Nat.mod_add_div (pre a N i) b
  have h2 := Nat.mod_lt (pre a N i) hb
  have e : pre a N (i + 1) = (256 * (pre a N i % b) + dgt 256 a j) + b * (256 * (pre a N i / b)) := by
    rw [pre_succ h]
    have : 256 * pre a N i = 256 * (pre a N i % b) + b * (256 * (pre a N i / b)) := by
      rw [Nat.mul_left_comm b, ← Nat.mul_add, h1]
    omega
  have h3 : (256 * (pre a N i % b) + dgt 256 a j) / b < 256 := by
    rw [Nat.div_lt_iff_lt_mul hb]
    have : 256 * (pre a N i % b + 1) ≤ 256 * b := Nat.mul_le_mul_left _ h2
    omega
  have h4 : pre a N (i + 1) / b = (256 * (pre a N i % b) + dgt 256 a j) / b + 256 * (pre a N i / b) := by
    rw [e, Nat.add_mul_div_left _ _ hb]
  have h5 : dgt 256 (a / b) j = (256 * (pre a N i % b) + dgt 256 a j) / b := by
    rw [pre_dgt h, h4, Nat.add_mul_mod_self_left, Nat.mod_eq_of_lt h3]
  refine ⟨h5.symm, ?_, by rw [h5]; exact h3⟩
  rw [e, Nat.add_mul_mod_self_left]
theorem pre_zero {a N i b j : Nat} (h : pre a N i < b) (hi : i ≤ N) (hj : N - i ≤ j) : dgt 256 (a / b) j = 0 := by
  have h1 : a / b / 256 ^ (N - i) = 0 := by
    rw [Nat.div_div_eq_div_mul, Nat.mul_comm, ← Nat.div_div_eq_div_mul]
    exact Nat.div_eq_of_lt h
  obtain ⟨x, rfl⟩ : ∃ x, j = N - i + x := ⟨j - (N - i), by omega⟩
  rw [dgt_def, Nat.pow_add, ← Nat.div_div_eq_div_mul, h1, Nat.zero_div]
theorem pre_nd_eq {a N i : Nat} (hN : nd 256 a = N) (hi : i ≤ N) : nd 256 (pre a N i) = i := by
  refine Nat.le_antisymm (pre_nd hN hi) ?_
  rcases Nat.eq_zero_or_pos i with h | h
  · omega
  · have h1 : 256 ^ (N - 1) ≤ a := (pow_le_iff (b := 256) (by omega) _ _).2 (by omega)
    have h2 : 256 ^ (i - 1) ≤ pre a N i := by
      unfold pre
      rw [Nat.le_div_iff_mul_le (Nat.pow_pos (by omega)), ← Nat.pow_add, show i - 1 + (N - i) = N - 1 by omega]
      exact h1
    have := (pow_le_iff (b := 256) (by omega) _ _).1 h2
    omega
theorem natS_take {a N i : Nat} (hN : nd 256 a = N) (hi : i ≤ N) : (natS a).extract 0 i = natS (pre a N i) := by
  have hs := natS_size a
  have hp := natS_size (pre a N i)
  rw [pre_nd_eq hN hi] at hp
  rw [hN] at hs
  have hs2 : ((natS a).extract 0 i).size = i := by
    rw [ByteArray.size_extract, hs]; omega
  apply ByteArray.ext_getElem (by rw [hs2, hp])
  intro j h1 h2
  have hj : j < i := by rw [hs2] at h1; exact h1
  rw [ByteArray.getElem_extract]
  have e1 := natS_get a j (by rw [hs]; omega)
  have e2 := natS_get (pre a N i) j h2
  rw [hN] at e1
  rw [pre_nd_eq hN hi] at e2
  have e3 : dgt 256 (pre a N i) (i - 1 - j) = dgt 256 a (N - 1 - j) := by
    unfold pre
    rw [dgt_def, dgt_def, Nat.div_div_eq_div_mul, ← Nat.pow_add, show N - i + (i - 1 - j) = N - 1 - j by omega]
  apply UInt8.toNat_inj.1
  rw [e2, e3, ← e1]
  congr 2
  omega
theorem rMade1_b (x : Nat) (w : World) (hx : x < 256) :
    Calls Tryz.prog 123 #[.slice (some ⟨w.heap.size, 0, none⟩) 1 1] (w.alloc (.cells #[.int .i64 (x : Nat)] 3)) fun e w' => e = .returned (.string (natS x)) ∧ Below (w.alloc (.cells #[.int .i64 (x : Nat)] 3)).heap.size (w.alloc (.cells #[.int .i64 (x : Nat)] 3)) w' := by
  have hblk : Blk (w.alloc (.cells #[.int .i64 (x : Nat)] 3)) w.heap.size 3 (fcells .i64 (fun _ => x) 1) := Blk.new w 3 _
  have hown := Own.of_fcells hblk (Nat.le_refl _) (by omega)
  have h := rMade_c w.heap.size (.slice (some ⟨w.heap.size, 0, none⟩) 1 1) [x] _ (by simpa using hx) (by simp) hown
  have e : of 256 [x] = x := by rw [of_cons, of_nil]; omega
  rw [e] at h
  exact h
theorem rMade1_t (x : Nat) (w wT : World) (hx : x < 256) (hb : Below (w.alloc (.cells #[.int .i64 (x : Nat)] 3)).heap.size (w.alloc (.cells #[.int .i64 (x : Nat)] 3)) wT) :
    Calls Tryz.prog 123 #[.slice (some ⟨w.heap.size, 0, none⟩) 1 1] wT fun e w' => e = .returned (.string (natS x)) ∧ Below wT.heap.size wT w' := by
  have hblk : Blk (w.alloc (.cells #[.int .i64 (x : Nat)] 3)) w.heap.size 3 (fcells .i64 (fun _ => x) 1) := Blk.new w 3 _
  have hown := Own.of_fcells (hblk.below hb hblk.lt) (Nat.le_refl _) (by omega)
  have h := rMade_c w.heap.size (.slice (some ⟨w.heap.size, 0, none⟩) 1 1) [x] _ (by simpa using hx) (by simp) hown
  have e : of 256 [x] = x := by rw [of_cons, of_nil]; omega
  rw [e] at h
  exact h
end Go.Proofs.YtajcapliokblfaaGreatDoor
namespace Go.Proofs.YtajcapliokblfaaGreatDoor
open Go Go.RowKit Nt
theorem natS_256 : natS 256 = ⟨#[1, 0]⟩ := by
  have h1 : nd 256 256 = 2 := by rw [nd_step (by omega) (by omega), show 256 / 256 = 1 by rfl, nd_step (by omega) (by omega), show 1 / 256 = 0 by rfl, nd_zero]
  rw [natS_def, h1]
  have : dl 256 256 2 = [0, 1] := by
    rw [dl_succ, dl_succ, dgt_def, dgt_def]
    simp [dl]
  rw [this]; rfl
def quoF (Z N i j : Nat) : Nat := if N - i ≤ j then dgt 256 Z j else 0
theorem quoF_step {Z N i x j : Nat} (h : N = i + 1 + x) (hj : j < N) : (if j = x then dgt 256 Z x else quoF Z N i j) = quoF Z N (i + 1) j := by
  unfold quoF
  by_cases h1 : j = x
  · rw [if_pos h1, if_pos (by omega), h1]
  · rw [if_neg h1]
    by_cases h2 : N - i ≤ j
    · rw [if_pos h2, if_pos (by omega)]
    · rw [if_neg h2, if_neg (by omega)]
theorem SB_alloc {w w' : World} (h : SB w w') (o : Obj) : SB w (w'.alloc o) := Below.alloc h h.size o
theorem search_mid {b R q lo hi mid : Nat} (hb : 0 < b) (hq : q = R / b) (h1 : lo ≤ q) (h2 : q ≤ hi) (hlt : lo < hi) (hm : mid = (lo + hi + 1) / 2) :
    lo < mid ∧ mid ≤ hi ∧ (b * mid ≤ R → mid ≤ q) ∧ (¬ b * mid ≤ R → q ≤ mid - 1) := by
  refine ⟨by omega, by omega, fun h => ?_, fun h => ?_⟩
  · rw [hq, Nat.le_div_iff_mul_le hb, Nat.mul_comm]; exact h
  · have : q < mid := by
      rw [hq, Nat.div_lt_iff_lt_mul hb, Nat.mul_comm]; omega
    omega
theorem rMade1_all (x : Nat) (hx : x < 256) : ∀ w wT : World, Below (w.alloc (.cells #[.int .i64 (x : Nat)] 3)).heap.size (w.alloc (.cells #[.int .i64 (x : Nat)] 3)) wT →
    Calls Tryz.prog 123 #[.slice (some ⟨w.heap.size, 0, none⟩) 1 1] wT fun e w' => e = .returned (.string (natS x)) ∧ Below wT.heap.size wT w' := fun w wT h => rMade1_t x w wT hx h
theorem rMade1_drew (x : Nat) (hx : x < 256) : ∀ w wT : World, Below (w.alloc (.cells #[.int .i64 (x : Nat)] 3)).drew.heap.size (w.alloc (.cells #[.int .i64 (x : Nat)] 3)).drew wT →
    Calls Tryz.prog 123 #[.slice (some ⟨w.heap.size, 0, none⟩) 1 1] wT fun e w' => e = .returned (.string (natS x)) ∧ Below wT.heap.size wT w' := fun w wT h => rMade1_t x w wT hx ⟨h.os, h.tape, h.output, h.size, h.block⟩
theorem rMade1_drewN (x : Nat) (hx : x < 256) : ∀ (w wT : World) (n : Nat), Below ((w.alloc (.cells #[.int .i64 (x : Nat)] 3)).drewN n).heap.size ((w.alloc (.cells #[.int .i64 (x : Nat)] 3)).drewN n) wT →
    Calls Tryz.prog 123 #[.slice (some ⟨w.heap.size, 0, none⟩) 1 1] wT fun e w' => e = .returned (.string (natS x)) ∧ Below wT.heap.size wT w' := fun w wT n h => rMade1_t x w wT hx ⟨h.os, h.tape, h.output, h.size, h.block⟩
set_option maxRecDepth 100000 in
set_option maxHeartbeats 4000000 in
theorem rDiv_at (a b N n0 : Nat) (w : World) (hb : b ≠ 0) (hN : nd 256 a = N) (hn : n0 ≤ N) (hN2 : N ≤ 5000) (hB2 : nd 256 b ≤ 5000) (hn2 : (n0 = nd 256 b - 1 ∧ ¬ N < nd 256 b - 1) ∨ (n0 = N ∧ N < nd 256 b - 1)) :
    Calls Tryz.prog 93 #[.string (natS a), .string (natS b)] w (Str2Post (natS (a / b)) (natS (a % b)) 0 w) := by
  obtain ⟨i0, hi0, hz0, hj1, hj2⟩ := info_parts (P := Tryz.prog) (e := 3) (z := .int .i64 0) (size := 1) (bytes := 8) (by kernel_rfl)
  have hE := natS_full hb
  have hE2 := natS_full2 hb
  have hsa := natS_size a
  have hsb := natS_size b
  have hex := natS_take hN hn
  have hpn := pre_nd_eq hN hn
  have hbn : nd 256 b ≠ 0 := fun e => hb ((nd_eq_zero (by omega)).1 e)
  have hpb : pre a N n0 < b := by
    refine lt_of_nd (b := 256) (by omega) ?_
    rw [hpn]; omega
  have hb0 : 0 < b := Nat.pos_of_ne_zero hb
  rw [hN] at hsa
  obtain ⟨Nb, hNb⟩ : ∃ Nb, Nb = nd 256 b := ⟨_, rfl⟩
  obtain ⟨m0, hm0⟩ : ∃ m0, Nb = m0 + 1 := ⟨Nb - 1, by omega⟩
  rw [← hNb] at hsb hn2 hB2
  have hmI : (Nb : Int) - 1 = (m0 : Int) := by omega
  have hn3 : (m0 = n0 ∧ ¬ N < m0) ∨ (N = n0 ∧ N < m0) := by
    rcases hn2 with ⟨h1, h2⟩ | ⟨h1, h2⟩
    · exact Or.inl ⟨by omega, by omega⟩
    · exact Or.inr ⟨h1.symm, by omega⟩
  have HPB := Lib.hid hpb
  have HB0 := Lib.hid hb0
  have HNE := Lib.hid hN
  have HNB := Lib.hid hNb
  have HEX := Lib.hid hex
  have HNN := Lib.hid hn
  have hN8 : N ≤ 5000 := hN2
  have hm8 : m0 ≤ 5000 := by omega
  clear hb hpn hbn hpb hb0 hN hNb hm0 hn2 hn hN2 hB2 hex
  rcases hn3 with ⟨rfl, hlt⟩ | ⟨rfl, hlt⟩
  all_goals
    have hex := HEX.out
    go_enter Tryz.func93, Tryz.ntmps93
    go_wp2_with (at_make; (refine wpList_make_zero _ rfl _ _ _ rfl 3 i0 _ Tryz.underlying139 hi0 hz0 hj1 .i64 .i64 _ _ N rfl rfl (by omega) (by omega) (by rw [hj2]; omega) (by unfold maxLen; omega) ?_); rw [made_fc]; have HQ0 := Lib.hid (Blk.new w 3 (fcells .i64 (fun _ => 0) N)); have hbl : Below w.heap.size w (w.alloc (.cells (fcells .i64 (fun _ => 0) N) 3)) := (Below.refl _ _).alloc (Nat.le_refl _) _; generalize w.alloc (.cells (fcells .i64 (fun _ => 0) N) 3) = w1 at *)
    obtain ⟨g, hg⟩ : ∃ g, g = w.heap.size := ⟨_, rfl⟩
    rw [← hg] at HQ0 hbl ⊢
    have HG := Lib.hid hg
    clear hg hex
    go_loopw [9, 10] (fun r ii wr => ∃ i : Nat, i ≤ N ∧ ii = .int .i64 i ∧ r = .string (natS (pre a N i % b)) ∧ Hid (Blk wr g 3 (fcells .i64 (quoF (a / b) N i) N)) ∧ Below g w wr) (fun _ ii _ => N - (intOf ii).toNat)
    case atStart => exact ⟨_, HNN.out, rfl, by rw [Nat.mod_eq_of_lt HPB.out], Lib.hid (by
      rw [fcells_congr (f' := fun _ => 0) (fun j hj => by
        unfold quoF
        split
        · exact pre_zero HPB.out HNN.out (by omega)
        · rfl)]
      exact HQ0.out), hbl⟩
    case round =>
      obtain ⟨i, hi, rfl, rfl, hblk, hbw⟩ := hrel
      by_cases hlt2 : i < N
      · obtain ⟨j, hj⟩ : ∃ j, N = i + 1 + j := ⟨N - i - 1, by omega⟩
        obtain ⟨hq, hr, hq256⟩ := pre_step (a := a) hj HB0.out
        have hRb := Nat.mod_lt (pre a N i) HB0.out
        obtain ⟨R, hR⟩ : ∃ R, R = pre a N i % b := ⟨_, rfl⟩
        rw [← hR] at hq hr hRb ⊢
        have his : i < (natS a).size := by omega
        have hgd := natS_get a i his
        rw [HNE.out, show N - 1 - i = j by omega] at hgd
        have hd := (natS a)[i].toNat_lt
        have hRn : nd 256 R ≤ Nb := by rw [HNB.out]; exact nd_mono (by omega) (Nat.le_of_lt hRb)
        have K1 := fun w => rTimes_c R 256 w (by omega) (by rw [nd_step (by omega) (by omega), show 256 / 256 = 1 by rfl, nd_step (by omega) (by omega), show 1 / 256 = 0 by rfl, nd_zero]; omega)
        rw [natS_256] at K1
        have hR2 : nd 256 (R * 256) ≤ Nb + 2 := by
          refine nd_le (by omega) ?_
          have h1 := (lt_pow_iff (b := 256) (by omega) _ _).2 hRn
          rw [Nat.pow_succ, Nat.pow_succ]; omega
        have K2 := fun w => rMade1_b (natS a)[i].toNat w hd
        have K3 := fun w => rPlus_c (R * 256) (natS a)[i].toNat w (by omega) (by
          have : nd 256 (natS a)[i].toNat ≤ 1 := nd_le (by omega) (by rw [Nat.pow_one]; exact hd)
          omega)
        have H1 := Lib.hid K1
        have H2 := Lib.hid K2
        have H2t := Lib.hid (rMade1_all (natS a)[i].toNat hd)
        have H3 := Lib.hid K3
        have HJ := Lib.hid hj
        have HQ := Lib.hid hq
        have HR := Lib.hid hr
        have HRB := Lib.hid hRb
        have HGD := Lib.hid hgd
        have HQ256 := Lib.hid hq256
        have HHR := Lib.hid hR
        have hwc : IntKind.i64.wrap (((natS a)[i].toNat : Nat) : Int) = (((natS a)[i].toNat : Nat) : Int) := IntWalk.i64_in _ (by omega)
        have L2 : SB wr wr.drew := (Below.refl _ _).drew
        clear K1 K2 K3 hq hr hRb hgd hRn hR2 hR hq256 hj
        go_wp2_with fail
        have H2d := Lib.hid (rMade1_drew (natS a)[i].toNat hd)
        have H2n := Lib.hid (rMade1_drewN (natS a)[i].toNat hd)
        go_upto_region 12 with fail
        go_cut [9] (fun r wc => r = .string (natS (R * 256 + (natS a)[i].toNat)) ∧ Below wr.heap.size wr wc)
        case first =>
          go_wp2_with fail
          go_region_with (first
            | (go_at_call 144; refine (H1.out _).mono ?_; rintro e wt ⟨rfl, hbt⟩)
            | (go_at_call 123; first | ((with_reducible refine (H2.out _).mono ?_); rintro e wm ⟨rfl, hbm⟩) | ((refine (H2n.out _ _ _ hbt).mono ?_); rintro e wm ⟨rfl, hbm⟩) | ((refine (H2d.out _ _ hbt).mono ?_); rintro e wm ⟨rfl, hbm⟩) | ((refine (H2t.out _ _ hbt).mono ?_); rintro e wm ⟨rfl, hbm⟩))
            | (go_at_call 134; refine (H3.out _).mono ?_; rintro e wp ⟨rfl, hbp⟩))
          all_goals
            go_wp2_with fail
            go_meet
            case rel => first
              | exact ⟨rfl, below_chain (below_chain (SB_alloc (below_chain L2 hbt) _) hbm) hbp⟩
              | exact ⟨rfl, below_chain (below_chain (below_chain (Below.drew (SB_alloc (Below.refl _ _) _)) hbt) hbm) hbp⟩
        case rest =>
          obtain ⟨rfl, hbc⟩ := hcut
          obtain ⟨T, hT⟩ : ∃ T, T = R * 256 + (natS a)[i].toNat := ⟨_, rfl⟩
          rw [← hT]
          have hd2 := hd
          have hqT : dgt 256 (a / b) j = T / b := by rw [hT, HGD.out, ← HQ.out]; congr 1; omega
          have hrT : pre a N (i + 1) % b = T % b := by rw [hT, HGD.out, ← HR.out]; congr 1; omega
          have hTb : T < b * 256 := by
            have h1 := HRB.out
            have h2 : R * 256 + 256 ≤ b * 256 := by rw [← Nat.succ_mul]; exact Nat.mul_le_mul_right _ h1
            omega
          obtain ⟨E, hE⟩ : ∃ E, E = 5001 := ⟨_, rfl⟩
          have hnb : nd 256 b ≤ E := by rw [← HNB.out]; omega
          have hTn : nd 256 T ≤ E + 1 := by
            refine nd_le (by omega) ?_
            have h1 := (lt_pow_iff (b := 256) (by omega) _ _).2 hnb
            rw [Nat.pow_succ]; omega
          have hfT : fits T := Nat.le_trans hTn (by omega)
          have hbm256 : ∀ m, m < 256 → nd 256 (b * m) ≤ E + 1 := by
            intro m hm
            refine nd_le (by omega) ?_
            have h1 := (lt_pow_iff (b := 256) (by omega) _ _).2 hnb
            have h2 : b * m ≤ b * 255 := Nat.mul_le_mul_left _ (by omega)
            rw [Nat.pow_succ]; omega
          have hm256 : ∀ m, m < 256 → nd 256 m ≤ 100000000 := fun m hm => by
            have : nd 256 m ≤ 1 := nd_le (by omega) (by rw [Nat.pow_one]; exact hm)
            omega
          obtain ⟨q, hq⟩ : ∃ q, q = T / b := ⟨_, rfl⟩
          have hq255 : q ≤ 255 := by
            have : q < 256 := by rw [hq, Nat.div_lt_iff_lt_mul HB0.out, Nat.mul_comm]; exact hTb
            omega
          have KTM := Lib.hid (fun (m : Nat) (hm : m < 256) (w : World) => rTimes_c b m w (by omega) (hm256 m hm))
          have KMD := Lib.hid (fun (m : Nat) (hm : m < 256) (w : World) => rMade1_b m w hm)
          have KCP := Lib.hid (fun (m : Nat) (hm : m < 256) (w : World) => rCmp_c (b * m) T w (Nat.le_trans (hbm256 m hm) (by omega)) hfT)
          have KSB := Lib.hid (fun (w : World) => rSub_ge T (b * q) w hfT (Nat.le_trans (hbm256 q (by omega)) (by omega)) (by rw [hq]; exact Nat.mul_div_le T b))
          have hTq : T - b * q = T % b := by rw [hq]; have := Nat.mod_add_div T b; omega
          have HHQ := Lib.hid hq
          have HQT := Lib.hid hqT
          have HRT := Lib.hid hrT
          have HTQ := Lib.hid hTq
          clear hT hqT hrT hTb hnb hTn hfT hbm256 hm256 hq hTq hd2 hwc L2 hE
          clear H1 H2 H2t H3 H2d H2n HGD hd his
          obtain ⟨ws, hws⟩ : ∃ ws, ws = wr := ⟨_, rfl⟩
          have hbs : Below ws.heap.size ws wc := by rw [hws]; exact hbc
          have HWS := Lib.hid hws
          have hbws : Below g w ws := by rw [hws]; exact hbw
          have hblks : Hid (Blk ws g 3 (fcells .i64 (quoF (a / b) N i) N)) := by rw [hws]; exact hblk
          clear hbc hws
          go_wp2_with fail
          go_loopw [11, 12] (fun lo hi w2 => ∃ l h : Nat, lo = .int .i64 l ∧ hi = .int .i64 h ∧ l ≤ q ∧ q ≤ h ∧ h ≤ 255 ∧ Below ws.heap.size ws w2) (fun lo hi _ => (intOf hi - intOf lo).toNat)
          case atStart => exact ⟨0, 255, rfl, rfl, Nat.zero_le _, hq255, Nat.le_refl _, hbs⟩
          case round =>
            obtain ⟨l, h, rfl, rfl, hl, hh, h255, hb2⟩ := hrel
            by_cases hlh : l < h
            · obtain ⟨m, hm⟩ : ∃ m, m = (l + h + 1) / 2 := ⟨_, rfl⟩
              obtain ⟨m1, m2, m3, m4⟩ := search_mid HB0.out HHQ.out hl hh hlh hm
              have hmI : ((l : Int) + (h : Int) + 1).tdiv 2 = (m : Int) := by rw [Int.tdiv_eq_ediv_of_nonneg (by omega)]; omega
              have hm2 : m < 256 := by omega
              have K1 := Lib.hid (KMD.out m hm2)
              have K2 := Lib.hid (KTM.out m hm2)
              have K3 := Lib.hid (KCP.out m hm2)
              have hcc : ∃ cc : Int, cmpN (b * m) T = cc ∧ ((b * m ≤ T ∧ cc ≤ 0) ∨ (¬ b * m ≤ T ∧ ¬ cc ≤ 0)) := by
                rcases Nat.lt_trichotomy (b * m) T with c | c | c
                · exact ⟨-1, cmpN_lt c, Or.inl ⟨by omega, by omega⟩⟩
                · exact ⟨0, by rw [c]; exact cmpN_eq T, Or.inl ⟨by omega, by omega⟩⟩
                · exact ⟨1, cmpN_gt c, Or.inr ⟨by omega, by omega⟩⟩
              obtain ⟨cc, hc1, hc2⟩ := hcc
              have HC1 := Lib.hid hc1
              clear hc1 hm
              rcases hc2 with ⟨hc3, hc4⟩ | ⟨hc3, hc4⟩
              · have hq1 := m3 hc3
                clear m3 m4
                have HC3 := Lib.hid hc3
                clear hc3
                go_wp2_with fail
                refine (K1.out _).mono ?_
                rintro e wm ⟨rfl, hbm⟩
                go_wp2_with fail
                refine (K2.out _).mono ?_
                rintro e wt ⟨rfl, hbt⟩
                go_wp2_with fail
                refine (K3.out _).mono ?_
                rintro e wc2 ⟨rfl, hdr⟩
                obtain ⟨nn, rfl⟩ := hdr
                rw [HC1.out]
                have hbf : Below ws.heap.size ws (wt.drewN nn) := SB_any (below_chain (below_chain (SB_alloc hb2 _) hbm) hbt) nn
                go_wp2_with fail
                go_roundw
                case rel => exact ⟨m, h, rfl, rfl, hq1, hh, h255, hbf⟩
                case measure => simp [intOf]; omega
              · have hq1 := m4 hc3
                clear m3 m4
                have HC3 := Lib.hid hc3
                clear hc3
                go_wp2_with fail
                refine (K1.out _).mono ?_
                rintro e wm ⟨rfl, hbm⟩
                go_wp2_with fail
                refine (K2.out _).mono ?_
                rintro e wt ⟨rfl, hbt⟩
                go_wp2_with fail
                refine (K3.out _).mono ?_
                rintro e wc2 ⟨rfl, hdr⟩
                obtain ⟨nn, rfl⟩ := hdr
                rw [HC1.out]
                have hbf : Below ws.heap.size ws (wt.drewN nn) := SB_any (below_chain (below_chain (SB_alloc hb2 _) hbm) hbt) nn
                go_wp2_with fail
                go_roundw
                case rel => exact ⟨l, m - 1, rfl, by go_num, hl, hq1, by omega, hbf⟩
                case measure => simp [intOf]; omega
            · obtain rfl : l = q := by omega
              have hblk2 := hblks.out.below hb2 hblks.out.lt
              have hg2 := hblk2.lt
              have hjN : j < N := by have := HJ.out; omega
              have hjI : (N : Int) - 1 - (i : Int) = (j : Int) := by have := HJ.out; omega
              obtain ⟨z, hz⟩ : ∃ z, z = quoF (a / b) N i j := ⟨_, rfl⟩
              have hcz := hblk2.cell j
              rw [fcells_get _ _ _ _ hjN, ← hz] at hcz
              have hfz := hblk2.frozen j
              have HB1 := hblk2.set_ j (.int .i64 ((l : Nat) : Int))
              rw [fcells_set, fcells_congr (f' := quoF (a / b) N (i + 1)) (fun x hx => by
                have h1 := quoF_step (Z := a / b) HJ.out hx
                rw [← h1, HQT.out, ← HHQ.out])] at HB1
              have HB2 := Lib.hid HB1
              have hbg : Below g w wr := hbws.trans (hb2.mono (Nat.le_of_lt hblks.out.lt))
              have hb1 := hbg.setCell (p := ⟨g, j, none⟩) (Nat.le_refl _) (.int .i64 ((l : Nat) : Int))
              have K1 := Lib.hid (KMD.out l (by omega))
              have K2 := Lib.hid (KTM.out l (by omega))
              have hln : l ≤ 255 := hq255
              have hwj : IntKind.i64.wrap ((N : Int) - 1 - (i : Int)) = (j : Int) := by rw [IntWalk.i64_in _ (by omega)]; exact hjI
              clear HB1 hblk2 hz hbg hblk
              have HSZ : Hid ((wr.setCell ⟨g, j, none⟩ (.int .i64 ((l : Nat) : Int))).heap.size = wr.heap.size) := Lib.hid (by simp [World.setCell])
              go_wp2_with fail
              generalize wr.setCell ⟨g, j, none⟩ (.int .i64 ((l : Nat) : Int)) = wS at *
              have hgs : g < wS.heap.size := HB2.out.lt
              rw [← HSZ.out]
              refine (K1.out _).mono ?_
              rintro e wm ⟨rfl, hbm⟩
              go_wp2_with fail
              refine (K2.out _).mono ?_
              rintro e wt ⟨rfl, hbt⟩
              go_wp2_with fail
              refine (KSB.out _).mono ?_
              rintro e wf ⟨rfl, hbf⟩
              have hSf : Below wS.heap.size wS wf := below_chain (below_chain (below_chain (SB_alloc (Below.refl _ _) _) hbm) hbt) hbf
              have hbe : Below g w wf := hb1.trans (hSf.mono (Nat.le_of_lt hgs))
              have hbk : Hid (Blk wf g 3 (fcells .i64 (quoF (a / b) N (i + 1)) N)) := HB2.out.below hSf hgs
              clear HB2 hb1 hbm hbt hbf
              go_wp2_with fail
              go_roundw
              case rel => exact ⟨i + 1, by omega, by go_num, by rw [HTQ.out, HRT.out], hbk, hbe⟩
              case measure => simp [intOf]; omega
      · obtain rfl : i = N := by omega
        have hZ : of 256 ((List.range i).map (quoF (a / b) i i)) = a / b := by
          have e : (List.range i).map (quoF (a / b) i i) = dl 256 (a / b) i := by
            unfold dl
            apply List.map_congr_left
            intro j _
            unfold quoF; rw [if_pos (by omega)]
          rw [e, of_dl]
          refine Nat.mod_eq_of_lt ((lt_pow_iff (b := 256) (by omega) _ _).2 ?_)
          have := nd_mono (b := 256) (by omega) (Nat.div_le_self a b)
          rw [HNE.out] at this; exact this
        have HZ := Lib.hid hZ
        have hown := Own.of_fcells hblk.out (Nat.le_refl _) (by omega)
        have KM := rMade_c g _ _ wr (fun x hx => by
          obtain ⟨j, _, rfl⟩ := List.mem_map.1 hx
          unfold quoF
          split
          · exact dgt_lt (by omega) _ _
          · omega) (by rw [List.length_map, List.length_range]; omega) hown
        rw [HZ.out] at KM
        have HKM := Lib.hid KM
        have hpa : pre a i i % b = a % b := by rw [pre_all]
        rw [hpa]
        have HBW := Lib.hid (by have h := hbw; rw [HG.out] at h; exact h : Below w.heap.size w wr)
        clear hZ hown KM hpa
        go_wp2_with fail
        refine HKM.out.mono ?_
        rintro e w' ⟨rfl, hb'⟩
        go_wp2_with fail
        go_ret3
        exact ⟨rfl, below_chain HBW.out hb'⟩
theorem rDiv_c (a b : Nat) (w : World) (hb : b ≠ 0) (hA : nd 256 a ≤ 5000) (hB : nd 256 b ≤ 5000) :
    Calls Tryz.prog 93 #[.string (natS a), .string (natS b)] w (Str2Post (natS (a / b)) (natS (a % b)) 0 w) := by
  by_cases h : nd 256 a < nd 256 b - 1
  · exact rDiv_at a b _ (nd 256 a) w hb rfl (Nat.le_refl _) hA hB (Or.inr ⟨rfl, h⟩)
  · exact rDiv_at a b _ (nd 256 b - 1) w hb rfl (by omega) hA hB (Or.inl ⟨rfl, h⟩)
end Go.Proofs.YtajcapliokblfaaGreatDoor
namespace Go.Proofs.YtajcapliokblfaaGreatDoor
open Go Go.RowKit Nt
def strOf : Value → ByteArray
  | .string s => s
  | _ => ⟨#[]⟩
set_option maxRecDepth 100000 in
set_option maxHeartbeats 1000000 in
theorem rGcd_c (a b : Nat) (w : World) (hA : nd 256 a ≤ 5000) (hB : nd 256 b ≤ 5000) :
    Calls Tryz.prog 73 #[.string (natS a), .string (natS b)] w (fun e w' => e = .returned (.string (natS (Nat.gcd a b))) ∧ Below w.heap.size w w') := by
  have HA := Lib.hid hA
  have HB := Lib.hid hB
  clear hA hB
  go_enter Tryz.func73, Tryz.ntmps73
  go_wp2_with fail
  go_loopw [0, 1] (fun ra rb wr => ∃ x y : Nat, ra = .string (natS x) ∧ rb = .string (natS y) ∧ Hid (Nat.gcd x y = Nat.gcd a b) ∧ Hid (nd 256 x ≤ 5000) ∧ Hid (nd 256 y ≤ 5000) ∧ Below w.heap.size w wr) (fun _ rb _ => bytesN (strOf rb))
  case atStart => exact ⟨a, b, rfl, rfl, Lib.hid rfl, HA, HB, Below.refl _ _⟩
  case round =>
    obtain ⟨x, y, rfl, rfl, hg, hx, hy, hbw⟩ := hrel
    by_cases hy0 : y = 0
    · subst hy0
      have hg2 := hg.out
      rw [Nat.gcd_zero_right] at hg2
      have HG2 := Lib.hid hg2
      rw [natS_zero]
      clear hg2 hg
      go_wp2_with fail
      go_ret
      exact ⟨by rw [← HG2.out]; rfl, hbw⟩
    · have hE := natS_full hy0
      have hE2 := natS_full2 hy0
      have KD := Lib.hid (fun w => rDiv_c x y w hy0 hx.out hy.out)
      have HY0 := Lib.hid hy0
      clear hy0
      go_wp2_with fail
      refine (KD.out _).mono ?_
      rintro e w1 ⟨rfl, hb1⟩
      go_wp2_with fail
      go_roundw
      case rel => exact ⟨y, x % y, rfl, rfl, Lib.hid (by rw [Nat.gcd_comm y, ← Nat.gcd_rec, Nat.gcd_comm]; exact hg.out), hy, Lib.hid (Nat.le_trans (nd_mono (by omega) (Nat.mod_le x y)) hx.out), below_chain hbw hb1⟩
      case measure =>
        have := Nat.mod_lt x (Nat.pos_of_ne_zero HY0.out)
        simpa [strOf, bytesN_natS] using this
end Go.Proofs.YtajcapliokblfaaGreatDoor
namespace Go.Proofs.YtajcapliokblfaaGreatDoor
open Go Go.RowKit Nt
end Go.Proofs.YtajcapliokblfaaGreatDoor
namespace Go.Proofs.YtajcapliokblfaaGreatDoor
open Go Go.RowKit Nt
theorem rMayOk {s : ByteArray} (h : May s) (hz : s.size ≤ 9223372036854775807) (w : World) : Calls Tryz.prog 61 #[.string s] w fun e w' => e = .returned (.bool true) ∧ Below w.heap.size w w' :=
  (rMay_c s w hz).mono fun e w' hh => ⟨by rw [hh.1, mayB_yes h], by rw [← hh.2]; exact Below.refl _ _⟩
theorem rMayNo {s : ByteArray} (h : ¬ May s) (hz : s.size ≤ 9223372036854775807) (w : World) : Calls Tryz.prog 61 #[.string s] w fun e w' => e = .returned (.bool false) ∧ Below w.heap.size w w' :=
  (rMay_c s w hz).mono fun e w' hh => ⟨by rw [hh.1, mayB_no h], by rw [← hh.2]; exact Below.refl _ _⟩
set_option maxRecDepth 100000 in
set_option maxHeartbeats 1000000 in
theorem rMay4_no (r : Rx) (w : World) (h : r.No) (hz : r.s.size ≤ 5000 ∧ r.t.size ≤ 5000) :
    Calls Tryz.prog 19 #[.agg #[.bool r.g, .string r.s, .string r.t]] w fun e w' => e = .returned (.bool false) ∧ Below w.heap.size w w' := by
  obtain ⟨g, s, t⟩ := r
  obtain ⟨z1, z2⟩ := hz
  replace z1 : s.size ≤ 5000 := z1
  replace z2 : t.size ≤ 5000 := z2
  have T0 := BL.start1 w (.bool g) (.string s) (.string t) 24
  rcases h.why with h1 | ⟨h1, h2⟩ | ⟨n, d, hn, hd, e1, e2, hc⟩
  · have K := Lib.hid (fun w => rMayNo (s := s) h1 (by omega) w)
    clear h h1 z1 z2
    go_enter Tryz.func19, Tryz.ntmps19
    go_wp2_with fail
    obtain ⟨p0, p1, p2, p3, p4, p5, p6⟩ := T0.box0
    go_quiet (fail)
    replace T0 := T0.drawn nq
    clear p0 p1 p2 p3 p4 p5 p6
    obtain ⟨p0, p1, p2, p3, p4, p5, p6⟩ := T0.box0
    go_wp2_with (first | (go_at_call 61; (with_reducible refine (K.out _).mono ?_); rintro ee w1 ⟨rfl, hb⟩; replace T0 := T0.step hb; obtain ⟨p0, p1, p2, p3, p4, p5, p6⟩ := T0.box0; clear hb))
    go_ret
    exact ⟨rfl, T0.1⟩
  · have K := Lib.hid (fun w => rMayOk (s := s) h1 (by omega) w)
    have K2 := Lib.hid (fun w => rMayNo (s := t) h2 (by omega) w)
    clear h h1 h2 z1 z2
    go_enter Tryz.func19, Tryz.ntmps19
    go_wp2_with fail
    obtain ⟨p0, p1, p2, p3, p4, p5, p6⟩ := T0.box0
    go_quiet (fail)
    replace T0 := T0.drawn nq
    clear p0 p1 p2 p3 p4 p5 p6
    obtain ⟨p0, p1, p2, p3, p4, p5, p6⟩ := T0.box0
    go_wp2_with (first
      | (go_at_call 61; (with_reducible refine (K.out _).mono ?_); rintro ee w1 ⟨rfl, hb⟩; replace T0 := T0.step hb; obtain ⟨p0, p1, p2, p3, p4, p5, p6⟩ := T0.box0; clear hb)
      | (go_at_call 61; (with_reducible refine (K2.out _).mono ?_); rintro ee w1 ⟨rfl, hb⟩; replace T0 := T0.step hb; obtain ⟨p0, p1, p2, p3, p4, p5, p6⟩ := T0.box0; clear hb))
    go_ret
    exact ⟨rfl, T0.1⟩
  · have e1' : s = natS n := e1
    have e2' : t = natS d := e2
    subst e1' e2'
    rw [natS_size] at z1 z2
    have K := Lib.hid (fun w => rMayOk ((may_natS n).2 hn) (by rw [natS_size]; omega) w)
    have K2 := Lib.hid (fun w => rMayOk ((may_natS d).2 hd) (by rw [natS_size]; omega) w)
    have KG := Lib.hid (fun w => rGcd_c n d w z1 z2)
    clear z1 z2
    clear h e1 e2 hn hd
    rcases hc with h0 | ⟨h0, h1, h2⟩ | ⟨h0, h1, h2⟩
    · have d1 := natS_empty h0
      clear h0
      go_enter Tryz.func19, Tryz.ntmps19
      go_wp2_with fail
      obtain ⟨p0, p1, p2, p3, p4, p5, p6⟩ := T0.box0
      go_quiet (fail)
      replace T0 := T0.drawn nq
      clear p0 p1 p2 p3 p4 p5 p6
      obtain ⟨p0, p1, p2, p3, p4, p5, p6⟩ := T0.box0
      go_wp2_with (first
        | (go_at_call 61; (with_reducible refine (K.out _).mono ?_); rintro ee w1 ⟨rfl, hb⟩; replace T0 := T0.step hb; obtain ⟨p0, p1, p2, p3, p4, p5, p6⟩ := T0.box0; clear hb)
        | (go_at_call 61; (with_reducible refine (K2.out _).mono ?_); rintro ee w1 ⟨rfl, hb⟩; replace T0 := T0.step hb; obtain ⟨p0, p1, p2, p3, p4, p5, p6⟩ := T0.box0; clear hb)
        | (go_at_call 73; (with_reducible refine (KG.out _).mono ?_); rintro ee w1 ⟨rfl, hb⟩; replace T0 := T0.step hb; clear hb))
      go_ret
      exact ⟨rfl, T0.1⟩
    · have d1 := natS_full h0
      have d2 := natS_full2 h0
      have d3 := natS_empty h1
      rcases h2 with h2 | ⟨h2, h3⟩
      · have d4 := one_no h2
        have d7 := one_nob h2
        clear h0 h1 h2
        go_enter Tryz.func19, Tryz.ntmps19
        go_wp2_with fail
        obtain ⟨p0, p1, p2, p3, p4, p5, p6⟩ := T0.box0
        go_quiet (fail)
        replace T0 := T0.drawn nq
        clear p0 p1 p2 p3 p4 p5 p6
        obtain ⟨p0, p1, p2, p3, p4, p5, p6⟩ := T0.box0
        go_wp2_with (first
          | (go_at_call 61; (with_reducible refine (K.out _).mono ?_); rintro ee w1 ⟨rfl, hb⟩; replace T0 := T0.step hb; obtain ⟨p0, p1, p2, p3, p4, p5, p6⟩ := T0.box0; clear hb)
          | (go_at_call 61; (with_reducible refine (K2.out _).mono ?_); rintro ee w1 ⟨rfl, hb⟩; replace T0 := T0.step hb; obtain ⟨p0, p1, p2, p3, p4, p5, p6⟩ := T0.box0; clear hb)
          | (go_at_call 73; (with_reducible refine (KG.out _).mono ?_); rintro ee w1 ⟨rfl, hb⟩; replace T0 := T0.step hb; clear hb))
        go_ret
        exact ⟨rfl, T0.1⟩
      · have d4 := one_yes h2
        have d5 : g = true := h3
        subst d5
        clear h0 h1 h2 h3
        go_enter Tryz.func19, Tryz.ntmps19
        go_wp2_with fail
        obtain ⟨p0, p1, p2, p3, p4, p5, p6⟩ := T0.box0
        go_quiet (fail)
        replace T0 := T0.drawn nq
        clear p0 p1 p2 p3 p4 p5 p6
        obtain ⟨p0, p1, p2, p3, p4, p5, p6⟩ := T0.box0
        go_wp2_with (first
          | (go_at_call 61; (with_reducible refine (K.out _).mono ?_); rintro ee w1 ⟨rfl, hb⟩; replace T0 := T0.step hb; obtain ⟨p0, p1, p2, p3, p4, p5, p6⟩ := T0.box0; clear hb)
          | (go_at_call 61; (with_reducible refine (K2.out _).mono ?_); rintro ee w1 ⟨rfl, hb⟩; replace T0 := T0.step hb; obtain ⟨p0, p1, p2, p3, p4, p5, p6⟩ := T0.box0; clear hb)
          | (go_at_call 73; (with_reducible refine (KG.out _).mono ?_); rintro ee w1 ⟨rfl, hb⟩; replace T0 := T0.step hb; clear hb))
        go_ret
        exact ⟨rfl, T0.1⟩
    · have d1 := natS_full h0
      have d2 := natS_full2 h0
      have d3 := natS_full h1
      have d6 := natS_full2 h1
      have d4 := one_no h2
      have d7 := one_nob h2
      clear h0 h1 h2
      go_enter Tryz.func19, Tryz.ntmps19
      go_wp2_with fail
      obtain ⟨p0, p1, p2, p3, p4, p5, p6⟩ := T0.box0
      go_quiet (fail)
      replace T0 := T0.drawn nq
      clear p0 p1 p2 p3 p4 p5 p6
      obtain ⟨p0, p1, p2, p3, p4, p5, p6⟩ := T0.box0
      go_wp2_with (first
        | (go_at_call 61; (with_reducible refine (K.out _).mono ?_); rintro ee w1 ⟨rfl, hb⟩; replace T0 := T0.step hb; obtain ⟨p0, p1, p2, p3, p4, p5, p6⟩ := T0.box0; clear hb)
        | (go_at_call 61; (with_reducible refine (K2.out _).mono ?_); rintro ee w1 ⟨rfl, hb⟩; replace T0 := T0.step hb; obtain ⟨p0, p1, p2, p3, p4, p5, p6⟩ := T0.box0; clear hb)
        | (go_at_call 73; (with_reducible refine (KG.out _).mono ?_); rintro ee w1 ⟨rfl, hb⟩; replace T0 := T0.step hb; clear hb))
      go_ret
      exact ⟨rfl, T0.1⟩
set_option maxRecDepth 100000 in
set_option maxHeartbeats 1000000 in
theorem rMay4_yes (q : Rat) (w : World) (h : qfits q) (hz : nd 256 (qN q) ≤ 5000 ∧ nd 256 (qD q) ≤ 5000) :
    Calls Tryz.prog 19 #[qv q] w fun e w' => e = .returned (.bool true) ∧ Below w.heap.size w w' := by
  obtain ⟨hl1, hl2, hl3⟩ := low_q q
  obtain ⟨hn, hd⟩ := h
  obtain ⟨z1, z2⟩ := hz
  unfold qv
  generalize qG q = g at *
  generalize qN q = n at *
  generalize qD q = d at *
  have T0 := BL.start1 w (.bool g) (.string (natS n)) (.string (natS d)) 24
  have K := Lib.hid (fun w => rMayOk ((may_natS n).2 hn) (by rw [natS_size]; omega) w)
  have K2 := Lib.hid (fun w => rMayOk ((may_natS d).2 hd) (by rw [natS_size]; omega) w)
  have KG := Lib.hid (fun w => rGcd_c n d w z1 z2)
  clear z1 z2
  rw [hl2] at KG
  have d1 := natS_full hl1
  have d2 := natS_full2 hl1
  have dd : (natS 1).toList = [1] := one_yes rfl
  by_cases h1 : n = 0
  · have d3 := natS_empty h1
    have d5 : g = false := hl3 h1
    have d4 : (natS d).toList = [1] := one_yes (by rw [h1, Nat.gcd_zero_left] at hl2; exact hl2)
    subst d5
    clear hl1 hl2 hl3 hn hd h1 d1 d2
    go_enter Tryz.func19, Tryz.ntmps19
    go_wp2_with fail
    obtain ⟨p0, p1, p2, p3, p4, p5, p6⟩ := T0.box0
    go_quiet (fail)
    replace T0 := T0.drawn nq
    clear p0 p1 p2 p3 p4 p5 p6
    obtain ⟨p0, p1, p2, p3, p4, p5, p6⟩ := T0.box0
    go_wp2_with (first
      | (go_at_call 61; (with_reducible refine (K.out _).mono ?_); rintro ee w1 ⟨rfl, hb⟩; replace T0 := T0.step hb; obtain ⟨p0, p1, p2, p3, p4, p5, p6⟩ := T0.box0; clear hb)
      | (go_at_call 61; (with_reducible refine (K2.out _).mono ?_); rintro ee w1 ⟨rfl, hb⟩; replace T0 := T0.step hb; obtain ⟨p0, p1, p2, p3, p4, p5, p6⟩ := T0.box0; clear hb)
      | (go_at_call 73; (with_reducible refine (KG.out _).mono ?_); rintro ee w1 ⟨rfl, hb⟩; replace T0 := T0.step hb; clear hb))
    go_ret
    exact ⟨rfl, T0.1⟩
  · have d3 := natS_full h1
    have d6 := natS_full2 h1
    clear hl1 hl2 hl3 hn hd h1
    go_enter Tryz.func19, Tryz.ntmps19
    go_wp2_with fail
    obtain ⟨p0, p1, p2, p3, p4, p5, p6⟩ := T0.box0
    go_quiet (fail)
    replace T0 := T0.drawn nq
    clear p0 p1 p2 p3 p4 p5 p6
    obtain ⟨p0, p1, p2, p3, p4, p5, p6⟩ := T0.box0
    go_wp2_with (first
      | (go_at_call 61; (with_reducible refine (K.out _).mono ?_); rintro ee w1 ⟨rfl, hb⟩; replace T0 := T0.step hb; obtain ⟨p0, p1, p2, p3, p4, p5, p6⟩ := T0.box0; clear hb)
      | (go_at_call 61; (with_reducible refine (K2.out _).mono ?_); rintro ee w1 ⟨rfl, hb⟩; replace T0 := T0.step hb; obtain ⟨p0, p1, p2, p3, p4, p5, p6⟩ := T0.box0; clear hb)
      | (go_at_call 73; (with_reducible refine (KG.out _).mono ?_); rintro ee w1 ⟨rfl, hb⟩; replace T0 := T0.step hb; clear hb))
    go_ret
    exact ⟨rfl, T0.1⟩
end Go.Proofs.YtajcapliokblfaaGreatDoor
namespace Go.Proofs.YtajcapliokblfaaGreatDoor
open Go Go.RowKit Nt
theorem fits_nd {n k : Nat} (h : nd 256 n ≤ k) (hk : k ≤ 16384) : fits n := Nat.le_trans h hk
theorem qv_zero : qv 0 = .agg #[.bool false, .string ⟨#[]⟩, .string ⟨#[1]⟩] := by rw [qv, qG_zero, qN_zero, qD_zero, natS_zero, natS_1r]
theorem rTimes4_c (a b : Nat) (w : World) (ha : nd 256 a ≤ 2400) (hb : nd 256 b ≤ 2400) : Calls Tryz.prog 82 #[.string (natS a), .string (natS b)] w fun e w' => e = .returned (.string (natS (a * b))) ∧ Below w.heap.size w w' := by
  have hf : fits (a * b) := fits_nd (Nat.le_trans (ndB_mul a b) (Nat.add_le_add ha hb)) (by decide)
  have K : Hid (∀ w, Calls Tryz.prog 119 #[.string (natS a), .string (natS b)] w (StrPost (natS (a * b)) 0 w)) := Lib.hid fun w => by
    have h := rMul_c a b w (by omega) (by omega) (fun c => by omega)
    rwa [resS_ok hf, resE_ok hf] at h
  clear hf ha hb
  generalize a * b = z at *
  go_enter Tryz.func82, Tryz.ntmps82
  go_wp2_with fail
  refine (K.out _).mono ?_
  rintro ee w1 ⟨rfl, hb⟩
  go_wp2_with fail
  go_ret
  exact ⟨rfl, hb⟩
set_option maxRecDepth 100000 in
set_option maxHeartbeats 1000000 in
theorem rLow4_c (g : Bool) (n d : Nat) (w : World) (hd : d ≠ 0) (h1 : nd 256 n ≤ 5000) (h2 : nd 256 d ≤ 5000) : Calls Tryz.prog 62 #[.bool g, .string (natS n), .string (natS d)] w fun e w' => e = .returned (qv (fr g n d)) ∧ Below w.heap.size w w' := by
  have T0 := BR.start0 w false (.string ⟨#[]⟩) (.string ⟨#[]⟩) 24
  by_cases hn : n = 0
  · subst hn
    rw [fr_zero, qv_zero]
    have d1 := natS_empty (n := 0) rfl
    obtain ⟨q0, q1, q2, q3, q4, q5, q6⟩ := T0.res0
    clear hd h1 h2 q0 q1 q2 q3 q4 q5 q6
    go_enter Tryz.func62, Tryz.ntmps62
    go_wp2_with fail
    refine bodyPost_ret (v := .agg #[.bool false, .string ⟨#[]⟩, .string ⟨#[1]⟩]) (by simp [results, Tryz.results62, go_sem]) rfl ⟨rfl, ?_⟩
    repeat (refine Below.setCell ?_ (by simp) _)
    first | exact T0.1 | exact (Below.refl _ _).alloc (Nat.le_refl _) _
  · have d1 := natS_full hn
    have d2 := natS_full2 hn
    have e1 := qN_fr g n d hd
    have e2 := qD_fr g n d hd
    have e3 := qG_fr g n d hd hn
    have hG0 : Nat.gcd n d ≠ 0 := fun e => hn (Nat.gcd_eq_zero_iff.1 e).1
    have hGn : nd 256 (Nat.gcd n d) ≤ 5000 := Nat.le_trans (nd_mono (by omega) (Nat.gcd_le_left d (Nat.pos_of_ne_zero hn))) h1
    have KG := Lib.hid (fun w => rGcd_c n d w h1 h2)
    have KN := Lib.hid (fun w => rDiv_c n (Nat.gcd n d) w hG0 h1 hGn)
    have KD := Lib.hid (fun w => rDiv_c d (Nat.gcd n d) w hG0 h2 hGn)
    have HQ := Lib.hid (show qv (fr g n d) = .agg #[.bool g, .string (natS (n / Nat.gcd n d)), .string (natS (d / Nat.gcd n d))] by rw [qv, e1, e2, e3])
    clear hd h1 h2 e1 e2 e3 hG0 hGn hn
    rw [HQ.out]
    clear HQ
    generalize Nat.gcd n d = G at *
    generalize n / G = N at *
    generalize d / G = D at *
    go_enter Tryz.func62, Tryz.ntmps62
    go_wp2_with (first
      | (go_at_call 73; (with_reducible refine (KG.out _).mono ?_); rintro ee w1 ⟨rfl, hb⟩; replace T0 := T0.step hb; clear hb)
      | (go_at_call 93; (with_reducible refine (KN.out _).mono ?_); rintro ee w2 ⟨rfl, hb⟩; replace T0 := T0.step hb; clear hb)
      | (go_at_call 93; (with_reducible refine (KD.out _).mono ?_); rintro ee w3 ⟨rfl, hb⟩; replace T0 := T0.step hb; clear hb; obtain ⟨q0, q1, q2, q3, q4, q5, q6⟩ := T0.res0; have hfin := below_put3 T0.1 (Nat.le_refl _)))
    refine bodyPost_ret (v := .agg #[.bool g, .string (natS N), .string (natS D)]) (by simp [results, Tryz.results62, go_sem, q0, q1, q2, q3]) rfl ⟨rfl, hfin _ _ _⟩
end Go.Proofs.YtajcapliokblfaaGreatDoor
namespace Go.Proofs.YtajcapliokblfaaGreatDoor
open Go Go.RowKit Nt
theorem BR.boxZ {w : World} {l : List C3} {W : World} (h : BR w l W) (c : C3) (hi : l[0]? = some c) : w.heap.size < W.heap.size ∧ W.cell? ⟨w.heap.size, 0, none⟩ = some c.1 ∧ W.cell? ⟨w.heap.size, 1, none⟩ = some c.2.1 ∧ W.cell? ⟨w.heap.size, 2, none⟩ = some c.2.2 ∧ W.frozen? ⟨w.heap.size, 0, none⟩ = false ∧ W.frozen? ⟨w.heap.size, 1, none⟩ = false ∧ W.frozen? ⟨w.heap.size, 2, none⟩ = false := h.box 0 c hi
end Go.Proofs.YtajcapliokblfaaGreatDoor
namespace Go.Proofs.YtajcapliokblfaaGreatDoor
open Go Go.RowKit Nt
theorem cmp_b (a b : Nat) : -1 ≤ cmpN a b ∧ cmpN a b ≤ 1 := by
  rcases Nat.lt_trichotomy a b with h | h | h
  · rw [cmpN_lt h]; decide
  · subst h; rw [cmpN_eq]; decide
  · rw [cmpN_gt h]; decide
end Go.Proofs.YtajcapliokblfaaGreatDoor
namespace Go.Proofs.YtajcapliokblfaaGreatDoor
open Go Go.RowKit Nt
theorem rMay4_any (r : Rx) (w : World) (hz : r.s.size ≤ 5000 ∧ r.t.size ≤ 5000) : Calls Tryz.prog 19 #[.agg #[.bool r.g, .string r.s, .string r.t]] w fun e w' => e = .returned (.bool (mayR r)) ∧ Below w.heap.size w w' := by
  rcases r.cases_ with ⟨q, hq⟩ | hn
  · rw [mayR_iff.2 ⟨q, hq⟩]
    obtain ⟨h1, rfl⟩ := hq
    have z1 := hz.1
    have z2 := hz.2
    rw [natS_size] at z1 z2
    exact rMay4_yes q w h1 ⟨z1, z2⟩
  · have e : mayR r = false := Bool.eq_false_iff.2 (fun c => by obtain ⟨q, hq⟩ := mayR_iff.1 c; exact hn q hq)
    rw [e]; exact rMay4_no r w hn hz
end Go.Proofs.YtajcapliokblfaaGreatDoor
namespace Go.Proofs.YtajcapliokblfaaGreatDoor
open Go Go.RowKit Nt
theorem Own.take {w : World} {B : Nat} {T : TypeId} {k : IntKind} {A : Option Addr} {L c : Nat} {l : List Nat} (h : Own w B T k (.slice A L c) l) {m : Nat} (hm : m ≤ l.length) : Own w B T k (.slice A m c) (l.take m) := by
  have hl : (l.take m).length = m := by rw [List.length_take]; omega
  unfold Own
  rw [hl]
  refine ⟨by simp; omega, ?_⟩
  rcases h.2 with ⟨e, h0⟩ | ⟨g, cap, cur, e, hB, hh, hn, hmx, hs, ht⟩
  · injection e with e1 e2 e3
    refine Or.inl ⟨?_, by omega⟩
    rw [e1, e3, show m = 0 by omega]
  · injection e with e1 e2 e3
    refine Or.inr ⟨g, cap, cur, by rw [e1, e3], hB, hh, by omega, hmx, hs, ?_⟩
    rw [Nat.mul_one] at ht ⊢
    rw [List.map_take, ← ht, List.take_take, Nat.min_eq_left hm]
end Go.Proofs.YtajcapliokblfaaGreatDoor
namespace Go.Proofs.YtajcapliokblfaaGreatDoor
open Go Go.RowKit Nt
def lowN (n : Nat) : Nat := if h : n = 0 ∨ n % 2 = 1 then 0 else lowN (n / 2) + 1
termination_by n
decreasing_by omega
def odN (n : Nat) : Nat := n / 2 ^ lowN n
structure Dy where
  g : Bool
  n : Nat
  x : Int
def Dy.v (d : Dy) : Value := .agg #[.bool d.g, .string (natS d.n), .int .i64 d.x]
def Dy.zero : Dy := ⟨false, 0, 0⟩
def Dy.Num (d : Dy) : Prop := fits d.n ∧ d.n % 2 = 1 ∧ -1048576 ≤ d.x ∧ d.x ≤ 1048576
def Dy.Ok (d : Dy) : Prop := d = Dy.zero ∨ d.Num
theorem Dy.zero_v : Dy.zero.v = .agg #[.bool false, .string ⟨#[]⟩, .int .i64 0] := by unfold Dy.v Dy.zero; rw [natS_zero]
def mkOk3 (n : Nat) (x : Int) : Prop := n = 0 ∨ (fits (odN n) ∧ -1048576 ≤ x + lowN n ∧ x + lowN n ≤ 1048576)
instance (n : Nat) (x : Int) : Decidable (mkOk3 n x) := by unfold mkOk3 fits; exact inferInstance
@[irreducible] def mkD (g : Bool) (n : Nat) (x : Int) : Dy := if n ≠ 0 ∧ mkOk3 n x then ⟨g, odN n, x + lowN n⟩ else Dy.zero
@[irreducible] def mkE (n : Nat) (x : Int) : Int := if mkOk3 n x then 0 else 4
theorem mkD_zero (g : Bool) (x : Int) : mkD g 0 x = Dy.zero := by unfold mkD; rw [if_neg (fun c => c.1 rfl)]
theorem mkE_zero (x : Int) : mkE 0 x = 0 := by unfold mkE; exact if_pos (Or.inl rfl)
theorem mkD_ok {g : Bool} {n : Nat} {x : Int} (h0 : n ≠ 0) (h : mkOk3 n x) : mkD g n x = ⟨g, odN n, x + lowN n⟩ := by unfold mkD; rw [if_pos ⟨h0, h⟩]
theorem mkE_ok {n : Nat} {x : Int} (h : mkOk3 n x) : mkE n x = 0 := by unfold mkE; rw [if_pos h]
theorem mkD_no {g : Bool} {n : Nat} {x : Int} (h : ¬ mkOk3 n x) : mkD g n x = Dy.zero := by unfold mkD; rw [if_neg (fun c => h c.2)]
theorem mkE_no {n : Nat} {x : Int} (h : ¬ mkOk3 n x) : mkE n x = 4 := by unfold mkE; rw [if_neg h]
end Go.Proofs.YtajcapliokblfaaGreatDoor
namespace Go.Proofs.YtajcapliokblfaaGreatDoor
open Go Go.RowKit Nt
def DRow (w : World) (A : Option Addr) (n L : Nat) : Prop := ∀ j, j < L → ∃ g, A = some ⟨g, 0, none⟩ ∧ g < w.heap.size ∧ w.cell? ⟨g, j, none⟩ = some (.int .i64 (dgt 256 n j : Nat))
end Go.Proofs.YtajcapliokblfaaGreatDoor
namespace Go.Proofs.YtajcapliokblfaaGreatDoor
open Go Go.RowKit Nt
def MkPost (g : Bool) (n : Nat) (x : Int) (w : World) (e : Ending) (w' : World) : Prop := e = .returned (.tuple #[(mkD g n x).v, .int .i64 (mkE n x)]) ∧ Below w.heap.size w w'
theorem MkPost.no {g : Bool} {n : Nat} {x : Int} (h : ¬ mkOk3 n x) {w : World} {e : Ending} {w' : World} (he : e = .returned (.tuple #[.agg #[.bool false, .string ⟨#[]⟩, .int .i64 0], .int .i64 4])) (hb : Below w.heap.size w w') : MkPost g n x w e w' := by
  unfold MkPost
  rw [mkD_no h, mkE_no h, Dy.zero_v]
  exact ⟨he, hb⟩
theorem MkPost.zero {g : Bool} {x : Int} {w : World} {e : Ending} {w' : World} (he : e = .returned (.tuple #[.agg #[.bool false, .string ⟨#[]⟩, .int .i64 0], .int .i64 0])) (hb : Below w.heap.size w w') : MkPost g 0 x w e w' := by
  unfold MkPost
  rw [mkD_zero, mkE_zero, Dy.zero_v]
  exact ⟨he, hb⟩
theorem MkPost.ok {g : Bool} {n : Nat} {x : Int} (h0 : n ≠ 0) (h : mkOk3 n x) {w : World} {e : Ending} {w' : World} (he : e = .returned (.tuple #[.agg #[.bool g, .string (natS (odN n)), .int .i64 (x + lowN n)], .int .i64 0])) (hb : Below w.heap.size w w') : MkPost g n x w e w' := by
  unfold MkPost
  rw [mkD_ok h0 h, mkE_ok h]
  exact ⟨he, hb⟩
end Go.Proofs.YtajcapliokblfaaGreatDoor
namespace Go.Proofs.YtajcapliokblfaaGreatDoor.Bt.Ff
open Ieee
def rung (x : Nat) : Nat := x % 9223372036854775808
def sgn (x : Nat) : Bool := x / 9223372036854775808 % 2 == 1
def isn (x : Nat) : Prop := 9218868437227405312 < rung x
instance (x : Nat) : Decidable (isn x) := by unfold isn; exact inferInstance
def srung (x : Nat) : Int := if sgn x then -(rung x : Int) else (rung x : Int)
def mag (r : Nat) : Nat := if r < 4503599627370496 then r else (4503599627370496 + r % 4503599627370496) * 2 ^ (r / 4503599627370496 - 1)
theorem sw : double.signWeight = 9223372036854775808 := by decide
theorem bin : double.binade = 4503599627370496 := by decide
theorem infr : double.infRung = 9218868437227405312 := by decide
theorem lp : double.leastPlace = -1074 := by decide
theorem read_eq (x : Nat) : double.read x =
    if rung x < 4503599627370496 then .number (sgn x) (rung x) (-1074)
    else if rung x < 9218868437227405312 then .number (sgn x) (4503599627370496 + rung x % 4503599627370496) (-1074 + ((rung x / 4503599627370496 - 1 : Nat) : Int))
    else if rung x = 9218868437227405312 then .infinity (sgn x) else .nan (sgn x) (rung x - 9218868437227405312) := by
  unfold Format.read
  rw [sw, bin, infr, lp]
  rfl
theorem mag_small {r : Nat} (h : r < 4503599627370496) : mag r = r := by unfold mag; rw [if_pos h]
theorem mag_big {r : Nat} (h : ¬ r < 4503599627370496) : mag r = (4503599627370496 + r % 4503599627370496) * 2 ^ (r / 4503599627370496 - 1) := by unfold mag; rw [if_neg h]
theorem mag_step (r : Nat) : mag r < mag (r + 1) := by
  by_cases h : r < 4503599627370496
  · by_cases h2 : r + 1 < 4503599627370496
    · rw [mag_small h, mag_small h2]; omega
    · rw [mag_small h, mag_big h2]
      have e : r + 1 = 4503599627370496 := by omega
      have q : (4503599627370496 + 4503599627370496 % 4503599627370496) * 2 ^ (4503599627370496 / 4503599627370496 - 1) = 4503599627370496 := by simp
      rw [e, q]; omega
  · have h2 : ¬ r + 1 < 4503599627370496 := by omega
    rw [mag_big h, mag_big h2]
    by_cases hm : r % 4503599627370496 = 4503599627370495
    · have e1 : (r + 1) % 4503599627370496 = 0 := by omega
      have e2 : (r + 1) / 4503599627370496 - 1 = (r / 4503599627370496 - 1) + 1 := by omega
      rw [e1, e2, hm, Nat.pow_succ]
      have hp : 0 < 2 ^ (r / 4503599627370496 - 1) := Nat.two_pow_pos _
      generalize 2 ^ (r / 4503599627370496 - 1) = p at hp
      omega
    · have e1 : (r + 1) % 4503599627370496 = r % 4503599627370496 + 1 := by omega
      have e2 : (r + 1) / 4503599627370496 = r / 4503599627370496 := by omega
      rw [e1, e2]
      exact Nat.mul_lt_mul_of_pos_right (by omega) (Nat.two_pow_pos _)
theorem mag_lt {r s : Nat} (h : r < s) : mag r < mag s := by
  obtain ⟨k, rfl⟩ : ∃ k, s = r + 1 + k := ⟨s - (r + 1), by omega⟩
  clear h
  induction k with
  | zero => exact mag_step r
  | succ k ih => exact Nat.lt_trans ih (mag_step _)
theorem mag_lt_iff {r s : Nat} : mag r < mag s ↔ r < s := by
  constructor
  · intro h
    by_cases c : r < s
    · exact c
    · rcases Nat.lt_or_eq_of_le (Nat.le_of_not_lt c) with c | c
      · have := mag_lt c; omega
      · subst c; omega
  · exact mag_lt
theorem mag_zero : mag 0 = 0 := rfl
def sv (x : Nat) : Int := if sgn x then -(mag (rung x) : Int) else (mag (rung x) : Int)
theorem sv_lt {x y : Nat} : sv x < sv y ↔ srung x < srung y := by
  have h1 : mag (rung x) < mag (rung y) ↔ rung x < rung y := mag_lt_iff
  have h2 : mag (rung y) < mag (rung x) ↔ rung y < rung x := mag_lt_iff
  have h3 : 0 < mag (rung x) ↔ 0 < rung x := by have := @mag_lt_iff 0 (rung x); rwa [mag_zero] at this
  have h4 : 0 < mag (rung y) ↔ 0 < rung y := by have := @mag_lt_iff 0 (rung y); rwa [mag_zero] at this
  unfold sv srung
  split <;> split <;> omega
theorem compare_congr {a b c d : Int} (h : a < b ↔ c < d) (h' : b < a ↔ d < c) : compare a b = compare c d := by
  simp only [compare, compareOfLessAndEq]
  by_cases e : a < b
  · rw [if_pos e, if_pos (h.1 e)]
  · rw [if_neg e, if_neg (fun x => e (h.2 x))]
    by_cases f : a = b
    · rw [if_pos f, if_pos (by omega)]
    · rw [if_neg f, if_neg (by omega)]
theorem signed_eq (s : Bool) (m u : Nat) : signed s m u = if s then -((m * 2 ^ u : Nat) : Int) else ((m * 2 ^ u : Nat) : Int) := by
  unfold signed; rw [Nat.shiftLeft_eq]
theorem signed_scale (s : Bool) (m u k : Nat) : signed s m u * ((2 ^ k : Nat) : Int) = signed s m (u + k) := by
  rw [signed_eq, signed_eq, Nat.pow_add]
  have : (m * (2 ^ u * 2 ^ k)) = (m * 2 ^ u) * 2 ^ k := by rw [Nat.mul_assoc]
  rw [this]
  split
  · rw [Int.neg_mul]; rfl
  · rfl
theorem order_num (s t : Bool) (m n : Nat) (i j : Nat) :
    Datum.order (.number s m (-1074 + (i : Int))) (.number t n (-1074 + (j : Int))) = some (compare (signed s m i) (signed t n j)) := by
  simp only [Datum.order]
  congr 1
  obtain ⟨b, hb, h1, h2⟩ : ∃ b : Nat, min (-1074 + (i : Int)) (-1074 + (j : Int)) = -1074 + (b : Int) ∧ b ≤ i ∧ b ≤ j := by
    by_cases h : i ≤ j
    · exact ⟨i, by omega, by omega, h⟩
    · exact ⟨j, by omega, by omega, by omega⟩
  rw [hb]
  have e1 : (-1074 + (i : Int) - (-1074 + (b : Int))).toNat = i - b := by omega
  have e2 : (-1074 + (j : Int) - (-1074 + (b : Int))).toNat = j - b := by omega
  rw [e1, e2]
  have f1 := signed_scale s m (i - b) b
  have f2 := signed_scale t n (j - b) b
  rw [Nat.sub_add_cancel h1] at f1
  rw [Nat.sub_add_cancel h2] at f2
  rw [← f1, ← f2]
  have hp : (0 : Int) < ((2 ^ b : Nat) : Int) := by have := Nat.two_pow_pos b; omega
  apply compare_congr
  · exact (Int.mul_lt_mul_right hp).symm
  · exact (Int.mul_lt_mul_right hp).symm
theorem read_fin {x : Nat} (h : rung x < 9218868437227405312) : ∃ m i : Nat, double.read x = .number (sgn x) m (-1074 + (i : Int)) ∧ m * 2 ^ i = mag (rung x) := by
  rw [read_eq]
  by_cases c : rung x < 4503599627370496
  · rw [if_pos c]; exact ⟨rung x, 0, rfl, by rw [mag_small c]; simp⟩
  · rw [if_neg c, if_pos h]; exact ⟨_, _, rfl, by rw [mag_big c]⟩
theorem read_inf {x : Nat} (h : rung x = 9218868437227405312) : double.read x = .infinity (sgn x) := by
  rw [read_eq, if_neg (by omega), if_neg (by omega), if_pos h]
theorem read_nan {x : Nat} (h : isn x) : double.read x = .nan (sgn x) (rung x - 9218868437227405312) := by
  unfold isn at h
  rw [read_eq, if_neg (by omega), if_neg (by omega), if_neg (by omega)]
theorem signed_sv {x m i : Nat} (h : m * 2 ^ i = mag (rung x)) : signed (sgn x) m i = sv x := by
  rw [signed_eq, h]; rfl
theorem order_eq (x y : Nat) : double.order x y = if isn x ∨ isn y then none else some (compare (srung x) (srung y)) := by
  unfold Format.order
  by_cases hx : isn x
  · rw [if_pos (Or.inl hx), read_nan hx]; rfl
  · by_cases hy : isn y
    · rw [if_pos (Or.inr hy), read_nan hy]; cases double.read x <;> rfl
    · rw [if_neg (fun h => h.elim hx hy)]
      have lx : rung x ≤ 9218868437227405312 := by unfold isn at hx; omega
      have ly : rung y ≤ 9218868437227405312 := by unfold isn at hy; omega
      rcases Nat.lt_or_eq_of_le lx with lx | lx <;> rcases Nat.lt_or_eq_of_le ly with ly | ly
      · obtain ⟨m, i, hm, em⟩ := read_fin lx
        obtain ⟨n, j, hn, en⟩ := read_fin ly
        rw [hm, hn, order_num, signed_sv em, signed_sv en]
        exact congrArg some (compare_congr sv_lt sv_lt)
      · obtain ⟨m, i, hm, em⟩ := read_fin lx
        rw [hm, read_inf ly]
        simp only [Datum.order, srung, ly]
        cases sgn y <;> simp only [if_true, if_false, Bool.false_eq_true] <;> congr 1 <;> symm
        · rw [show compare (if sgn x = true then -(rung x : Int) else (rung x : Int)) ((9218868437227405312 : Nat) : Int) = compare (0 : Int) 1 from compare_congr (by split <;> omega) (by split <;> omega)]; rfl
        · rw [show compare (if sgn x = true then -(rung x : Int) else (rung x : Int)) (-((9218868437227405312 : Nat) : Int)) = compare (1 : Int) 0 from compare_congr (by split <;> omega) (by split <;> omega)]; rfl
      · obtain ⟨n, j, hn, en⟩ := read_fin ly
        rw [hn, read_inf lx]
        simp only [Datum.order, srung, lx]
        cases sgn x <;> simp only [if_true, if_false, Bool.false_eq_true] <;> congr 1 <;> symm
        · rw [show compare ((9218868437227405312 : Nat) : Int) (if sgn y = true then -(rung y : Int) else (rung y : Int)) = compare (1 : Int) 0 from compare_congr (by split <;> omega) (by split <;> omega)]; rfl
        · rw [show compare (-((9218868437227405312 : Nat) : Int)) (if sgn y = true then -(rung y : Int) else (rung y : Int)) = compare (0 : Int) 1 from compare_congr (by split <;> omega) (by split <;> omega)]; rfl
      · rw [read_inf lx, read_inf ly]
        simp only [Datum.order, srung, lx, ly]
        cases sgn x <;> cases sgn y <;> decide
end Go.Proofs.YtajcapliokblfaaGreatDoor.Bt.Ff
namespace Go.Proofs.YtajcapliokblfaaGreatDoor.Bt
open Go Ff
theorem ext_bits (b : Nat) (w : World) : (callFunc 57 #[.float .f64 b]).run Tryz.prog w = .ok (.value (.int .u64 b)) w := by kernel_rfl
theorem ext_from (b : Nat) (w : World) : (callFunc 52 #[.int .u64 b]).run Tryz.prog w = .ok (.value (.float .f64 b)) w := by kernel_rfl
theorem isn_iff (x : Nat) : isn x ↔ 9218868437227405312 < rung x := Iff.rfl
theorem isn_ne (x : Nat) : (FloatKind.f64.format.order x x != some Ordering.eq) = decide (isn x) := by
  rw [show FloatKind.f64.format.order x x = _ from order_eq x x]
  by_cases h : isn x
  · simp [h]
  · simp [h, compare, compareOfLessAndEq]
theorem and_not_top (x : Nat) (hx : x < 18446744073709551616) : bits BinOp.andNot IntKind.u64 (x : Int) 9223372036854775808 = ((rung x : Nat) : Int) := by
  rw [show (9223372036854775808 : Int) = ((9223372036854775808 : Nat) : Int) from rfl, u64_andNot_nat x _ hx (by decide)]
  congr 1
  exact Nat.and_two_pow_sub_one_eq_mod x 63
theorem ret_int {k : IntKind} {a b : Int} (h : a = b) : Ending.returned (.int k a) = .returned (.int k b) := by rw [h]
@[irreducible] def infB (x : Nat) : Bool := rung x == 9218868437227405312
theorem infB_true (x : Nat) : infB x = true ↔ rung x = 9218868437227405312 := by unfold infB; exact beq_iff_eq
@[local go_sem] theorem eq_inf (x : Nat) : ((rung x : Int) == 9218868437227405312) = infB x := by
  rw [Bool.eq_iff_iff, beq_iff_eq, infB_true]; omega
@[irreducible] def subB (x : Nat) : Bool := decide (rung x < 4503599627370496)
theorem subB_true (x : Nat) : subB x = true ↔ rung x < 4503599627370496 := by unfold subB; exact decide_eq_true_iff
@[local go_sem] theorem lt_sub (x : Nat) : decide ((rung x : Int) < 4503599627370496) = subB x := by
  rw [Bool.eq_iff_iff, decide_eq_true_iff, subB_true]; omega
end Go.Proofs.YtajcapliokblfaaGreatDoor.Bt
namespace Go.Proofs.YtajcapliokblfaaGreatDoor.Bt
open Go Go.RowKit Ff
@[irreducible] def finB (x : Nat) : Bool := decide (rung x < 9218868437227405312)
@[irreducible] def topped (b : Nat) : Nat := 9223372036854775808 + b
theorem topped_eq (b : Nat) : topped b = 9223372036854775808 + b := by unfold topped; rfl
@[irreducible] def wf (neg : Bool) (r : Nat) : Nat := if neg then topped r else r
theorem wf_eq (neg : Bool) (r : Nat) : wf neg r = if neg then topped r else r := by unfold wf; rfl
theorem signed_b (neg : Bool) (b : Nat) (hb : b < 9223372036854775808) (w : World) :
    Calls Tryz.prog 192 #[.bool neg, .int .u64 b] w fun e w' => e = .returned (.float .f64 (wf neg b)) ∧ w = w' := by
  have h12 := ext_from
  have ho : bits BinOp.or IntKind.u64 (b : Int) 9223372036854775808 = ((topped b : Nat) : Int) := by
    rw [topped_eq, show (9223372036854775808 : Int) = ((9223372036854775808 : Nat) : Int) from rfl, u64_or_nat b _ (by omega) (by decide), Nat.or_comm]
    congr 1
    exact nat_join 63 _ _ (by decide) hb
  cases neg
  all_goals
    go_enter Tryz.func192, Tryz.ntmps192
    go_wp2
    all_goals go_ret
    all_goals exact ⟨by rw [wf_eq]; rfl, rfl⟩
theorem rsigned_c (neg : Bool) (b : Nat) (hb : b < 9223372036854775808) (w : World) :
    Calls Tryz.prog 180 #[.bool neg, .int .u64 b] w fun e w' => e = .returned (.float .f64 (wf neg b)) ∧ w = w' := by
  have h12 := ext_from
  have ho : IntKind.u64.wrap ((b : Int) + 9223372036854775808) = ((topped b : Nat) : Int) := by
    rw [topped_eq, IntKind.wrap_u64]; omega
  cases neg
  all_goals
    go_enter Tryz.func180, Tryz.ntmps180
    go_wp2
    all_goals go_ret
    all_goals exact ⟨by rw [wf_eq]; rfl, rfl⟩
theorem sub_self (x : Nat) (h : rung x < 9218868437227405312) : floatBits .sub .f64 x x = some 0 := by
  show Ieee.double.sub x x = some 0
  obtain ⟨m, i, hm, _⟩ := read_fin h
  unfold Ieee.Format.sub
  rw [hm]
  simp only [Ieee.Datum.opposite, Ieee.Datum.sum, Int.min_self, Int.sub_self]
  have e : Ieee.signed (sgn x) m (Int.toNat 0) + Ieee.signed (!sgn x) m (Int.toNat 0) = 0 := by
    rw [signed_eq, signed_eq]; cases sgn x <;> simp <;> omega
  rw [e]
  simp only [if_true, Bool.and_not_self]
  rfl
end Go.Proofs.YtajcapliokblfaaGreatDoor.Bt
namespace Go.Proofs.YtajcapliokblfaaGreatDoor.Bt
open Go
theorem ctzFrom_more : ∀ (f x : Nat), 0 < x → x < 2 ^ f → Lib.ctzFrom (f + 1) x = Lib.ctzFrom f x
  | 0, x, h0, h => by simp at h; omega
  | f + 1, x, h0, h => by
    have hp := Nat.pow_succ (n := 2) (m := f)
    by_cases c : x % 2 = 1
    · simp only [Lib.ctzFrom, if_pos c]
    · have ih := ctzFrom_more f (x / 2) (by omega) (by omega)
      rw [Lib.ctzFrom, if_neg c, ih, Lib.ctzFrom, if_neg c]
def tz (m : Nat) : Nat := Lib.ctz 64 m
def od (m : Nat) : Nat := m / 2 ^ tz m
theorem tz_odd {m : Nat} (h : m % 2 = 1) : tz m = 0 := by
  unfold tz Lib.ctz
  rw [if_neg (by omega), Lib.ctzFrom, if_pos h]
theorem tz_even {m : Nat} (h0 : 0 < m) (hm : m < 18446744073709551616) (h : m % 2 = 0) : tz m = tz (m / 2) + 1 := by
  unfold tz Lib.ctz
  rw [if_neg (by omega), if_neg (by omega), show (64 : Nat) = 63 + 1 from rfl, Lib.ctzFrom, if_neg (by omega), ctzFrom_more 63 (m / 2) (by omega) (by omega)]
  omega
theorem od_odd {m : Nat} (h : m % 2 = 1) : od m = m := by unfold od; rw [tz_odd h]; simp
theorem od_even {m : Nat} (h0 : 0 < m) (hm : m < 18446744073709551616) (h : m % 2 = 0) : od m = od (m / 2) := by
  unfold od
  rw [tz_even h0 hm h, Nat.pow_succ, Nat.mul_comm, Nat.div_div_eq_div_mul]
theorem tz_spec {m : Nat} (h0 : 0 < m) (hm : m < 18446744073709551616) : od m * 2 ^ tz m = m ∧ od m % 2 = 1 ∧ tz m < 64 := by
  obtain ⟨q, hq, hk⟩ := Lib.ctzFrom_spec 64 m h0 (by omega)
  have e : tz m = Lib.ctzFrom 64 m := by unfold tz Lib.ctz; rw [if_neg (by omega)]
  have e2 : od m = 2 * q + 1 := by
    unfold od; rw [e]
    have hp := Nat.two_pow_pos (Lib.ctzFrom 64 m)
    generalize Lib.ctzFrom 64 m = k at hq hp ⊢
    rw [hq, Nat.mul_comm, Nat.mul_div_cancel _ hp]
  refine ⟨?_, by omega, by omega⟩
  rw [e2, e, Nat.mul_comm]; exact hq.symm
theorem od_pos {m : Nat} (h0 : 0 < m) (hm : m < 18446744073709551616) : 0 < od m := by have := (tz_spec h0 hm).2.1; omega
theorem od_le {m : Nat} : od m ≤ m := Nat.div_le_self _ _
theorem bl_spec : ∀ (f m : Nat), m < 2 ^ f → m < 2 ^ Lib.bitLenAux f m ∧ (0 < m → 2 ^ Lib.bitLenAux f m ≤ 2 * m) ∧ Lib.bitLenAux f m ≤ f
  | 0, m, h => by simp at h; subst h; simp [Lib.bitLenAux]
  | f + 1, m, h => by
    rw [Lib.bitLenAux]
    by_cases c : m = 0
    · rw [if_pos c]; subst c; simp
    · rw [if_neg c]
      have hp := Nat.pow_succ (n := 2) (m := f)
      obtain ⟨h1, h2, h3⟩ := bl_spec f (m / 2) (by omega)
      rw [Nat.add_comm 1, Nat.pow_succ]
      refine ⟨by omega, fun _ => ?_, by omega⟩
      by_cases c2 : m / 2 = 0
      · have : m = 1 := by omega
        subst this
        have e : Lib.bitLenAux f (1 / 2) = 0 := by cases f <;> simp [Lib.bitLenAux]
        rw [e]; decide
      · have := h2 (by omega); omega
theorem bl_zero : Lib.bitLen 0 = 0 := by decide
theorem bl_lt {m : Nat} (h : m < 18446744073709551616) : m < 2 ^ Lib.bitLen m := (bl_spec 64 m h).1
theorem bl_ge {m : Nat} (h : m < 18446744073709551616) (h0 : 0 < m) : 2 ^ Lib.bitLen m ≤ 2 * m := (bl_spec 64 m h).2.1 h0
theorem bl_le {m : Nat} (h : m < 18446744073709551616) : Lib.bitLen m ≤ 64 := (bl_spec 64 m h).2.2
theorem bl_pos {m : Nat} (h0 : 0 < m) : 0 < Lib.bitLen m := by
  unfold Lib.bitLen Lib.bitLenAux; rw [if_neg (by omega)]; omega
end Go.Proofs.YtajcapliokblfaaGreatDoor.Bt
namespace Go.Proofs.YtajcapliokblfaaGreatDoor.Bt
open Go Go.RowKit Ff
def Tabs (w : World) : Prop := TabAt 4 Lib.deBruijn64tab w ∧ 4 < w.heap.size
theorem Tabs.below {w w' : World} (h : Tabs w) (hb : Below w.heap.size w w') : Tabs w' :=
  ⟨fun j hj => by rw [hb.cell (p := ⟨4, j, none⟩) h.2]; exact h.1 j hj, Nat.lt_of_lt_of_le h.2 hb.size⟩
@[irreducible] def pm (x : Nat) : Nat := if rung x < 4503599627370496 then rung x else 4503599627370496 + rung x % 4503599627370496
@[irreducible] def pex (x : Nat) : Int := if rung x < 4503599627370496 then -1074 else -1074 + ((rung x / 4503599627370496 - 1 : Nat) : Int)
end Go.Proofs.YtajcapliokblfaaGreatDoor.Bt
namespace Go.Proofs.YtajcapliokblfaaGreatDoor
open Go Go.RowKit Nt
theorem tabs_of {w : World} (h : Globs glT w) : Bt.Tabs w := by
  have hlk : look 4 glT = some (Lib.deBruijn64tab.map fun (x : Nat) => AV.lit (.int .u8 (x : Nat))) := by
    unfold glT; rw [look_cons, if_pos rfl]
  obtain ⟨h1, h2⟩ := h _ _ hlk
  refine ⟨fun j hj => ?_, h1⟩
  obtain ⟨u, e, c⟩ := h2 j (AV.lit (.int .u8 ((Lib.deBruijn64tab[j]'hj : Nat) : Int))) (by rw [List.getElem?_map, List.getElem?_eq_getElem hj]; rfl)
  injection e with e
  rw [c, ← e]
  simp [List.getD, List.getElem?_eq_getElem hj]
end Go.Proofs.YtajcapliokblfaaGreatDoor
namespace Go.Proofs.YtajcapliokblfaaGreatDoor.Bt
open Go Go.RowKit Ff
@[irreducible] def mkR (q : Nat) (e : Int) : Nat := if e + Lib.bitLen q > -1022 then q * 2 ^ (53 - Lib.bitLen q) - 4503599627370496 + (e + Lib.bitLen q + 1022).toNat * 4503599627370496 else q * 2 ^ (e + 1074).toNat
def mkOk (q : Nat) (e : Int) : Prop := Lib.bitLen q ≤ 53 ∧ -1074 ≤ e ∧ e + Lib.bitLen q - 1 ≤ 1023
instance (q : Nat) (e : Int) : Decidable (mkOk q e) := by unfold mkOk; exact inferInstance
theorem Make_zero (neg : Bool) (e : Int) (w : World) :
    Calls Tryz.prog 178 #[.bool neg, .int .u64 0, .int .i64 e] w fun r w' => r = .returned (.tuple #[.float .f64 (wf neg 0), .bool true]) ∧ w = w' := by
  go_enter Tryz.func178, Tryz.ntmps178
  go_wp2_with (go_at_call 192; refine (signed_b neg 0 (by decide) _).mono ?_; rintro e w' ⟨rfl, rfl⟩)
  go_ret2
  exact ⟨rfl, rfl⟩
theorem Make_far (neg : Bool) (m : Nat) (h0 : m ≠ 0) (e : Int) (he : 1023 < e ∨ e < -1137) (w : World) :
    Calls Tryz.prog 178 #[.bool neg, .int .u64 m, .int .i64 e] w fun r w' => r = .returned (.tuple #[.float .f64 0, .bool false]) ∧ w = w' := by
  have hz : ((m : Int) == 0) = false := by rw [beq_eq_false_iff_ne]; omega
  rcases he with he | he
  · go_enter Tryz.func178, Tryz.ntmps178
    go_wp2
    go_ret2
    exact ⟨rfl, rfl⟩
  · have he2 : ¬ 1023 < e := by omega
    go_enter Tryz.func178, Tryz.ntmps178
    go_wp2
    go_ret2
    exact ⟨rfl, rfl⟩
theorem shr_tz {m : Nat} (h0 : 0 < m) (hm : m < 18446744073709551616) : (m : Int) / 2 ^ Lib.ctz 64 m = (od m : Int) := by
  unfold od tz; norm_cast
theorem mkOk_bits {q : Nat} {e : Int} (h : mkOk q e) : Lib.bitLen q ≤ 53 ∧ -1074 ≤ e ∧ e + Lib.bitLen q - 1 ≤ 1023 := h
theorem Make_bad (neg : Bool) (m : Nat) (h0 : 0 < m) (hm : m < 18446744073709551616) (e : Int) (he1 : e ≤ 1023) (he2 : -1137 ≤ e) (hk : ¬ mkOk (od m) (e + tz m)) (w : World) (ht : Tabs w) :
    Calls Tryz.prog 178 #[.bool neg, .int .u64 m, .int .i64 e] w fun r w' => r = .returned (.tuple #[.float .f64 0, .bool false]) ∧ w = w' := by
  have hz : ((m : Int) == 0) = false := by rw [beq_eq_false_iff_ne]; omega
  have g1 : ¬ 1023 < e := by omega
  have g2 : ¬ e < -1137 := by omega
  have hs := shr_tz h0 hm
  have hk' : Lib.ctz 64 m < 64 := (tz_spec h0 hm).2.2
  have hq1 : od m < 18446744073709551616 := Nat.lt_of_le_of_lt od_le hm
  have hb := bl_le hq1
  unfold mkOk tz at hk
  by_cases c1 : 53 < (Lib.bitLen (od m) : Int)
  · clear hk
    go_enter Tryz.func178, Tryz.ntmps178
    go_wp2_with (first | (go_at_call 186; refine (Tryz.bits_TrailingZeros64 _ (by omega) _ (fun _ => ht.1)).mono ?_; rintro e w' ⟨rfl, rfl⟩) | (go_at_call 169; refine (Tryz.bits_Len64 _ _ (by omega) (by omega)).mono ?_; rintro e w' ⟨rfl, rfl⟩))
    go_ret2
    exact ⟨rfl, rfl⟩
  · by_cases c2 : e + (Lib.ctz 64 m : Int) < -1074
    · clear hk
      go_enter Tryz.func178, Tryz.ntmps178
      go_wp2_with (first | (go_at_call 186; refine (Tryz.bits_TrailingZeros64 _ (by omega) _ (fun _ => ht.1)).mono ?_; rintro e w' ⟨rfl, rfl⟩) | (go_at_call 169; refine (Tryz.bits_Len64 _ _ (by omega) (by omega)).mono ?_; rintro e w' ⟨rfl, rfl⟩))
      go_ret2
      exact ⟨rfl, rfl⟩
    · have c3 : 1023 < e + (Lib.ctz 64 m : Int) + (Lib.bitLen (od m) : Int) - 1 := by omega
      clear hk
      go_enter Tryz.func178, Tryz.ntmps178
      go_wp2_with (first | (go_at_call 186; refine (Tryz.bits_TrailingZeros64 _ (by omega) _ (fun _ => ht.1)).mono ?_; rintro e w' ⟨rfl, rfl⟩) | (go_at_call 169; refine (Tryz.bits_Len64 _ _ (by omega) (by omega)).mono ?_; rintro e w' ⟨rfl, rfl⟩))
      go_ret2
      exact ⟨rfl, rfl⟩
theorem mul_lt_pow {q B k : Nat} (h : q < 2 ^ B) : q * 2 ^ k < 2 ^ (B + k) := by
  rw [Nat.pow_add]; exact Nat.mul_lt_mul_of_pos_right h (Nat.two_pow_pos k)
theorem mkR_sub {q : Nat} {e : Int} (h : ¬ e + Lib.bitLen q > -1022) : mkR q e = q * 2 ^ (e + 1074).toNat := by unfold mkR; rw [if_neg h]
theorem mkR_nor {q : Nat} {e : Int} (h : e + Lib.bitLen q > -1022) : mkR q e = q * 2 ^ (53 - Lib.bitLen q) - 4503599627370496 + (e + Lib.bitLen q + 1022).toNat * 4503599627370496 := by unfold mkR; rw [if_pos h]
theorem sub_small {q : Nat} {e : Int} (hq : q < 18446744073709551616) (h : mkOk q e) (hs : ¬ e + Lib.bitLen q > -1022) : q * 2 ^ (e + 1074).toNat < 4503599627370496 := by
  obtain ⟨h1, h2, h3⟩ := mkOk_bits h
  refine Nat.lt_of_lt_of_le (mul_lt_pow (bl_lt hq)) ?_
  have p := Nat.pow_le_pow_right (n := 2) (by decide) (show Lib.bitLen q + (e + 1074).toNat ≤ 52 by omega)
  exact p
theorem nor_small {q : Nat} {e : Int} (hq0 : 0 < q) (hq : q < 18446744073709551616) (h : mkOk q e) : 4503599627370496 ≤ q * 2 ^ (53 - Lib.bitLen q) ∧ q * 2 ^ (53 - Lib.bitLen q) < 9007199254740992 := by
  obtain ⟨h1, h2, h3⟩ := mkOk_bits h
  constructor
  · have g := bl_ge hq hq0
    have p : 2 ^ Lib.bitLen q * 2 ^ (53 - Lib.bitLen q) = 9007199254740992 := by rw [← Nat.pow_add, show Lib.bitLen q + (53 - Lib.bitLen q) = 53 by omega]
    have := Nat.mul_le_mul_right (2 ^ (53 - Lib.bitLen q)) g
    rw [p, Nat.mul_assoc] at this
    omega
  · have := mul_lt_pow (k := 53 - Lib.bitLen q) (bl_lt hq)
    rw [show Lib.bitLen q + (53 - Lib.bitLen q) = 53 by omega] at this
    exact this
theorem mkR_lt {q : Nat} {e : Int} (hq0 : 0 < q) (hq : q < 18446744073709551616) (h : mkOk q e) : mkR q e < 9218868437227405312 := by
  obtain ⟨h1, h2, h3⟩ := mkOk_bits h
  by_cases c : e + Lib.bitLen q > -1022
  · rw [mkR_nor c]
    have := (nor_small hq0 hq h).2
    omega
  · rw [mkR_sub c]
    have := sub_small hq h c
    omega
theorem cast_mul_pow (a k : Nat) : (a : Int) * 2 ^ k = ((a * 2 ^ k : Nat) : Int) := by rw [Int.natCast_mul, Int.natCast_pow]; rfl
theorem mk_sub {m : Nat} {e : Int} (hq : od m < 18446744073709551616) (h : mkOk (od m) (e + tz m)) (c : ¬ -1023 < e + (Lib.ctz 64 m : Int) + (Lib.bitLen (od m) : Int) - 1) :
    IntKind.u64.wrap ((od m : Int) * 2 ^ (e + (Lib.ctz 64 m : Int) + 1074).toNat) = (mkR (od m) (e + tz m) : Int) := by
  have c' : ¬ e + (tz m : Int) + Lib.bitLen (od m) > -1022 := by unfold tz; omega
  rw [mkR_sub c', IntKind.wrap_u64]
  have := sub_small hq h c'
  unfold tz at this ⊢
  rw [cast_mul_pow]
  omega
theorem mk_nor {m : Nat} {e : Int} (hq0 : 0 < od m) (hq : od m < 18446744073709551616) (h : mkOk (od m) (e + tz m)) (c : -1023 < e + (Lib.ctz 64 m : Int) + (Lib.bitLen (od m) : Int) - 1) :
    bits BinOp.or IntKind.u64 (bits BinOp.and IntKind.u64 (IntKind.u64.wrap ((od m : Int) * 2 ^ (53 - Lib.bitLen (od m)))) 4503599627370495)
      ((e + (Lib.ctz 64 m : Int) + (Lib.bitLen (od m) : Int) - 1 + 1023) * 4503599627370496) = (mkR (od m) (e + tz m) : Int) := by
  have c' : e + (tz m : Int) + Lib.bitLen (od m) > -1022 := by unfold tz; omega
  obtain ⟨n1, n2⟩ := nor_small hq0 hq h
  obtain ⟨h1, h2, h3⟩ := mkOk_bits h
  rw [mkR_nor c']
  have e1 : IntKind.u64.wrap ((od m : Int) * 2 ^ (53 - Lib.bitLen (od m))) = ((od m * 2 ^ (53 - Lib.bitLen (od m)) : Nat) : Int) := by
    rw [IntKind.wrap_u64, cast_mul_pow]; omega
  rw [e1]
  generalize od m * 2 ^ (53 - Lib.bitLen (od m)) = z at n1 n2
  rw [show (4503599627370495 : Int) = ((4503599627370495 : Nat) : Int) from rfl, u64_and_nat z _ (by omega) (by decide)]
  have e2 : z &&& 4503599627370495 = z - 4503599627370496 := by
    rw [show z &&& 4503599627370495 = z % 4503599627370496 from Nat.and_two_pow_sub_one_eq_mod z 52]; omega
  rw [e2]
  obtain ⟨k, hk⟩ : ∃ k : Nat, e + (Lib.ctz 64 m : Int) + (Lib.bitLen (od m) : Int) - 1 + 1023 = (k : Int) := ⟨(e + (Lib.ctz 64 m : Int) + (Lib.bitLen (od m) : Int) - 1 + 1023).toNat, by omega⟩
  have hk2 : (e + (tz m : Int) + (Lib.bitLen (od m) : Int) + 1022).toNat = k := by unfold tz; omega
  have hk3 : k ≤ 2046 := by unfold tz at h3; omega
  rw [hk2, hk, show (k : Int) * 4503599627370496 = ((k * 4503599627370496 : Nat) : Int) by omega, u64_or_nat _ _ (by omega) (by omega), Nat.or_comm]
  congr 1
  rw [nat_join 52 _ _ (by omega) (by omega), Nat.add_comm]
theorem Make_ok (neg : Bool) (m : Nat) (h0 : 0 < m) (hm : m < 18446744073709551616) (e : Int) (he1 : e ≤ 1023) (he2 : -1137 ≤ e) (hk : mkOk (od m) (e + tz m)) (w : World) (ht : Tabs w) :
    Calls Tryz.prog 178 #[.bool neg, .int .u64 m, .int .i64 e] w fun r w' => r = .returned (.tuple #[.float .f64 (wf neg (mkR (od m) (e + tz m))), .bool true]) ∧ w = w' := by
  have hz : ((m : Int) == 0) = false := by rw [beq_eq_false_iff_ne]; omega
  have g1 : ¬ 1023 < e := by omega
  have g2 : ¬ e < -1137 := by omega
  have hs := shr_tz h0 hm
  have hk' : Lib.ctz 64 m < 64 := (tz_spec h0 hm).2.2
  have hq1 : od m < 18446744073709551616 := Nat.lt_of_le_of_lt od_le hm
  have hb := bl_le hq1
  obtain ⟨k1, k2, k3⟩ := mkOk_bits hk
  unfold tz at k2 k3
  have c1 : ¬ 53 < (Lib.bitLen (od m) : Int) := by omega
  have c2 : ¬ e + (Lib.ctz 64 m : Int) < -1074 := by omega
  have c3 : ¬ 1023 < e + (Lib.ctz 64 m : Int) + (Lib.bitLen (od m) : Int) - 1 := by omega
  have hq0 := od_pos h0 hm
  have hlt := mkR_lt hq0 hq1 hk
  by_cases c4 : -1023 < e + (Lib.ctz 64 m : Int) + (Lib.bitLen (od m) : Int) - 1
  case' pos => have hr := mk_nor hq0 hq1 hk c4
  case' neg => have hr := mk_sub hq1 hk c4
  all_goals
    go_enter Tryz.func178, Tryz.ntmps178
    go_wp2_with (first | (go_at_call 186; refine (Tryz.bits_TrailingZeros64 _ (by omega) _ (fun _ => ht.1)).mono ?_; rintro e w' ⟨rfl, rfl⟩) | (go_at_call 169; refine (Tryz.bits_Len64 _ _ (by omega) (by omega)).mono ?_; rintro e w' ⟨rfl, rfl⟩) | (go_at_call 192; refine (signed_b neg _ (by omega) _).mono ?_; rintro e w' ⟨rfl, rfl⟩))
    go_ret2
    exact ⟨rfl, rfl⟩
end Go.Proofs.YtajcapliokblfaaGreatDoor.Bt
namespace Go.Proofs.YtajcapliokblfaaGreatDoor.Bt
open Go Go.RowKit Ff
theorem rdigits_c (m : Nat) (hm : m < 18446744073709551616) (w : World) :
    Calls Tryz.prog 181 #[.int .u64 m] w fun e w' => e = .returned (.int .i64 (Lib.bitLen m)) ∧ w = w' := by
  go_enter Tryz.func181, Tryz.ntmps181
  go_wp2
  go_loop [0, 3] (fun a b => ∃ q n : Nat, q < 18446744073709551616 ∧ Hid (n + Lib.bitLen q = Lib.bitLen m) ∧ n ≤ 64 ∧ a = .int .u64 q ∧ b = .int .i64 n) (fun a _ => (intOf a).toNat)
  case atStart => exact ⟨m, 0, hm, Lib.hid (by omega), by omega, rfl, rfl⟩
  case round =>
    obtain ⟨q, n, hq, H, hn, rfl, rfl⟩ := hrel
    have hbm := bl_le hm
    by_cases h0 : 0 < q
    · have hh := Lib.hid (Lib.bitLen_half q (by omega) (by omega))
      go_wp2
      go_round
      case rel => exact ⟨q / 2, n + 1, by omega, Lib.hid (by have := H.out; have := hh.out; omega), by have := H.out; have := hh.out; omega, by go_num, by go_num⟩
      case measure => simp [intOf]; omega
    · have : q = 0 := by omega
      subst this
      go_wp2
      go_ret
      exact ⟨ret_int (by have := H.out; have := bl_zero; omega), rfl⟩
@[irreducible] def shl (q k : Nat) : Nat := q * 2 ^ k
theorem shl_eq (q k : Nat) : shl q k = q * 2 ^ k := by unfold shl; rfl
theorem shl_zero (q : Nat) : shl q 0 = q := by rw [shl_eq]; simp
theorem shl_succ (q k : Nat) : shl q (k + 1) = 2 * shl q k := by rw [shl_eq, shl_eq, Nat.pow_succ, ← Nat.mul_assoc, Nat.mul_comm]
theorem shl_lt {q B k n : Nat} (h : q < 2 ^ B) (hk : B + k ≤ n) : shl q k < 2 ^ n := by
  rw [shl_eq]; exact Nat.lt_of_lt_of_le (mul_lt_pow h) (Nat.pow_le_pow_right (by decide) hk)
@[irreducible] def shlB (q k : Nat) : Bool := decide (shl q k < 4503599627370496)
theorem shlB_true (q k : Nat) : shlB q k = true ↔ shl q k < 4503599627370496 := by unfold shlB; exact decide_eq_true_iff
theorem shlB_false (q k : Nat) : shlB q k = false ↔ ¬ shl q k < 4503599627370496 := by unfold shlB; exact decide_eq_false_iff_not
@[local go_sem] theorem lt_shl (q k : Nat) : decide ((shl q k : Int) < 4503599627370496) = shlB q k := by
  rw [Bool.eq_iff_iff, decide_eq_true_iff, shlB_true]; omega
theorem ret_fb {neg t : Bool} {a b : Nat} (h : a = b) : Ending.returned (.tuple #[.float .f64 (wf neg a), .bool t]) = .returned (.tuple #[.float .f64 (wf neg b), .bool t]) := by rw [h]
theorem rMake_zero (neg : Bool) (e : Int) (w : World) :
    Calls Tryz.prog 148 #[.bool neg, .int .u64 0, .int .i64 e] w fun r w' => r = .returned (.tuple #[.float .f64 (wf neg 0), .bool true]) ∧ w = w' := by
  go_enter Tryz.func148, Tryz.ntmps148
  go_wp2_with (go_at_call 180; refine (rsigned_c neg 0 (by decide) _).mono ?_; rintro e w' ⟨rfl, rfl⟩)
  go_ret2
  exact ⟨rfl, rfl⟩
theorem rMake_bad (neg : Bool) (m : Nat) (h0 : 0 < m) (hm : m < 18446744073709551616) (e : Int) (he1 : e ≤ 1024) (he2 : -1138 ≤ e) (hmk : ¬ mkOk (od m) (e + tz m)) (w : World) :
    Calls Tryz.prog 148 #[.bool neg, .int .u64 m, .int .i64 e] w fun r w' => r = .returned (.tuple #[.float .f64 0, .bool false]) ∧ w = w' := by
  have hz : ((m : Int) == 0) = false := by rw [beq_eq_false_iff_ne]; omega
  have g1 : ¬ 1024 < e := by omega
  have g2 : ¬ e < -1138 := by omega
  have hk := (tz_spec h0 hm).2.2
  have hq0 := od_pos h0 hm
  have hq1 : od m < 18446744073709551616 := Nat.lt_of_le_of_lt od_le hm
  have hb := bl_le hq1
  go_enter Tryz.func148, Tryz.ntmps148
  go_wp2
  go_loop [1, 2] (fun a b => ∃ (q : Nat) (ex : Int), 0 < q ∧ q < 18446744073709551616 ∧ Hid (od q = od m) ∧ Hid (ex + tz q = e + tz m) ∧ -2000 ≤ ex ∧ a = .int .u64 q ∧ b = .int .i64 ex) (fun a _ => (intOf a).toNat)
  case atStart => exact ⟨m, e, h0, hm, Lib.hid rfl, Lib.hid rfl, by omega, rfl, rfl⟩
  case round =>
    obtain ⟨q, ex, hq0', hq1', H1, H2, hl, rfl, rfl⟩ := hrel
    have hu : ex ≤ 1100 := by have := H2.out; omega
    by_cases ho : q % 2 = 1
    · have ht : ((q : Int) % 2 == 0) = false := by rw [beq_eq_false_iff_ne]; omega
      have e1 : q = od m := by rw [← H1.out, od_odd ho]
      have e2 : ex = e + tz m := by rw [← H2.out, tz_odd ho]; omega
      subst e1
      rw [← e2] at hmk
      clear H1 H2
      have e2' := Lib.hid e2
      clear e2
      by_cases c1 : 53 < (Lib.bitLen (od m) : Int)
      · clear hmk
        go_wp2_with (go_at_call 181; refine (rdigits_c _ (by omega) _).mono ?_; rintro e w' ⟨rfl, rfl⟩)
        go_ret2
        exact ⟨rfl, rfl⟩
      · by_cases c2 : ex < -1074
        · clear hmk
          go_wp2_with (go_at_call 181; refine (rdigits_c _ (by omega) _).mono ?_; rintro e w' ⟨rfl, rfl⟩)
          go_ret2
          exact ⟨rfl, rfl⟩
        · have c3 : 1024 < ex + (Lib.bitLen (od m) : Int) := by unfold mkOk at hmk; omega
          clear hmk
          go_wp2_with (go_at_call 181; refine (rdigits_c _ (by omega) _).mono ?_; rintro e w' ⟨rfl, rfl⟩)
          go_ret2
          exact ⟨rfl, rfl⟩
    · have ht : ((q : Int) % 2 == 0) = true := by rw [beq_iff_eq]; omega
      have H3 := Lib.hid (tz_even hq0' hq1' (by omega))
      go_wp2
      go_round
      case rel => exact ⟨q / 2, ex + 1, by omega, by omega, Lib.hid (by rw [← od_even hq0' hq1' (by omega)]; exact H1.out), Lib.hid (by have := H2.out; rw [H3.out] at this; omega), by omega, by go_num, rfl⟩
      case measure => simp [intOf]; omega
theorem rMake_ok (neg : Bool) (m : Nat) (h0 : 0 < m) (hm : m < 18446744073709551616) (e : Int) (he1 : e ≤ 1024) (he2 : -1138 ≤ e) (hmk : mkOk (od m) (e + tz m)) (w : World) :
    Calls Tryz.prog 148 #[.bool neg, .int .u64 m, .int .i64 e] w fun r w' => r = .returned (.tuple #[.float .f64 (wf neg (mkR (od m) (e + tz m))), .bool true]) ∧ w = w' := by
  have hz : ((m : Int) == 0) = false := by rw [beq_eq_false_iff_ne]; omega
  have g1 : ¬ 1024 < e := by omega
  have g2 : ¬ e < -1138 := by omega
  have hk := (tz_spec h0 hm).2.2
  have hq0 := od_pos h0 hm
  have hq1 : od m < 18446744073709551616 := Nat.lt_of_le_of_lt od_le hm
  have hb := bl_le hq1
  go_enter Tryz.func148, Tryz.ntmps148
  go_wp2
  go_loop [1, 2] (fun a b => ∃ (q : Nat) (ex : Int), 0 < q ∧ q < 18446744073709551616 ∧ Hid (od q = od m) ∧ Hid (ex + tz q = e + tz m) ∧ -2000 ≤ ex ∧ a = .int .u64 q ∧ b = .int .i64 ex) (fun a _ => (intOf a).toNat)
  case atStart => exact ⟨m, e, h0, hm, Lib.hid rfl, Lib.hid rfl, by omega, rfl, rfl⟩
  case round =>
    obtain ⟨q, ex, hq0', hq1', H1, H2, hl, rfl, rfl⟩ := hrel
    have hu : ex ≤ 1100 := by have := H2.out; omega
    by_cases ho : q % 2 = 1
    · have ht : ((q : Int) % 2 == 0) = false := by rw [beq_eq_false_iff_ne]; omega
      have e1 : q = od m := by rw [← H1.out, od_odd ho]
      have e2 : ex = e + tz m := by rw [← H2.out, tz_odd ho]; omega
      subst e1
      rw [← e2] at hmk
      rw [← e2]
      clear H1 H2
      have e2' := Lib.hid e2
      clear e2
      obtain ⟨k1, k2, k3⟩ := mkOk_bits hmk
      have hp := Nat.two_pow_pos (Lib.bitLen (od m))
      have c1 : ¬ 53 < (Lib.bitLen (od m) : Int) := by omega
      have c2 : ¬ ex < -1074 := by omega
      have c3 : ¬ 1024 < ex + (Lib.bitLen (od m) : Int) := by omega
      go_wp2_with (go_at_call 181; refine (rdigits_c _ (by omega) _).mono ?_; rintro e w' ⟨rfl, rfl⟩)
      go_loop [1, 2, 8] (fun a b c => ∃ k : Nat, k ≤ 53 - Lib.bitLen (od m) ∧ (k : Int) ≤ ex + 1074 ∧ a = .int .u64 (shl (od m) k) ∧ b = .int .i64 (ex - k) ∧ c = .int .i64 ((Lib.bitLen (od m) + k : Nat) : Int)) (fun a b c => 53 - (intOf c).toNat)
      case atStart => exact ⟨0, by omega, by omega, by rw [shl_zero], by simp, by simp⟩
      case round =>
        obtain ⟨k, hk1, hk2, rfl, rfl, rfl⟩ := hrel
        have hs1 : shl (od m) k < 9007199254740992 := shl_lt (n := 53) (bl_lt hq1) (by omega)
        by_cases d1 : Lib.bitLen (od m) + k < 53
        · by_cases d2 : -1074 < ex - (k : Int)
          · go_wp2
            go_round
            case rel => exact ⟨k + 1, by omega, by omega, by rw [shl_succ]; go_num, by go_num, by go_num⟩
            case measure => simp [intOf]; omega
          · have hs2 : shl (od m) k < 4503599627370496 := shl_lt (n := 52) (bl_lt hq1) (by omega)
            have hs3 : shlB (od m) k = true := (shlB_true _ _).2 hs2
            clear hs2
            have hr : shl (od m) k = mkR (od m) ex := by rw [mkR_sub (by omega), shl_eq, show k = (ex + 1074).toNat by omega]
            have HR := Lib.hid hr
            clear hr
            go_wp2_with (go_at_call 180; refine (rsigned_c neg _ (by have := (shlB_true _ _).1 hs3; omega) _).mono ?_; rintro e w' ⟨rfl, rfl⟩)
            go_ret2
            exact ⟨ret_fb (by rw [← e2'.out]; exact HR.out), rfl⟩
        · obtain ⟨n1, n2⟩ := nor_small hq0 hq1 hmk
          have hs2 : ¬ shl (od m) k < 4503599627370496 := by rw [shl_eq, show k = 53 - Lib.bitLen (od m) by omega]; omega
          have hml := mkR_lt hq0 hq1 hmk
          have hr : IntKind.u64.wrap (IntKind.u64.wrap ((shl (od m) k : Int) - 4503599627370496) + (ex - (k : Int) + 1074 + 1) * 4503599627370496) = (mkR (od m) ex : Int) := by
            rw [IntKind.wrap_u64, IntKind.wrap_u64]
            rw [mkR_nor (by omega)] at hml ⊢
            have ek : k = 53 - Lib.bitLen (od m) := by omega
            have es : shl (od m) k = od m * 2 ^ (53 - Lib.bitLen (od m)) := by rw [shl_eq, ← ek]
            rw [es]
            clear es
            generalize od m * 2 ^ (53 - Lib.bitLen (od m)) = z at n1 n2 hml
            omega
          have hs3 : shlB (od m) k = false := (shlB_false _ _).2 hs2
          have HR := Lib.hid hr
          clear hs2 n1 n2 hr
          go_wp2_with fail
          rw [HR.out]
          refine (rsigned_c neg _ (by omega) _).mono ?_; rintro e w' ⟨rfl, rfl⟩
          go_wp2
          go_ret2
          exact ⟨ret_fb (by rw [← e2'.out]), rfl⟩
    · have ht : ((q : Int) % 2 == 0) = true := by rw [beq_iff_eq]; omega
      have H3 := Lib.hid (tz_even hq0' hq1' (by omega))
      go_wp2
      go_round
      case rel => exact ⟨q / 2, ex + 1, by omega, by omega, Lib.hid (by rw [← od_even hq0' hq1' (by omega)]; exact H1.out), Lib.hid (by have := H2.out; rw [H3.out] at this; omega), by omega, by go_num, rfl⟩
      case measure => simp [intOf]; omega
end Go.Proofs.YtajcapliokblfaaGreatDoor.Bt
namespace Go.Proofs.YtajcapliokblfaaGreatDoor.Bt
open Go Go.RowKit Ff
@[irreducible] def mkB (m : Nat) (e : Int) : Bool := decide (m = 0 ∨ mkOk (od m) (e + tz m))
@[irreducible] def mkF (neg : Bool) (m : Nat) (e : Int) : Nat := if m = 0 then wf neg 0 else if mkOk (od m) (e + tz m) then wf neg (mkR (od m) (e + tz m)) else 0
theorem mkB_zero (e : Int) : mkB 0 e = true := by unfold mkB; simp
theorem mkF_zero (neg : Bool) (e : Int) : mkF neg 0 e = wf neg 0 := by unfold mkF; simp
theorem mkB_ok {m : Nat} {e : Int} (h : mkOk (od m) (e + tz m)) : mkB m e = true := by unfold mkB; simp [h]
theorem mkF_ok {neg : Bool} {m : Nat} {e : Int} (h0 : 0 < m) (h : mkOk (od m) (e + tz m)) : mkF neg m e = wf neg (mkR (od m) (e + tz m)) := by
  unfold mkF; rw [if_neg (by omega), if_pos h]
theorem mkB_no {m : Nat} {e : Int} (h0 : 0 < m) (h : ¬ mkOk (od m) (e + tz m)) : mkB m e = false := by
  unfold mkB; rw [decide_eq_false_iff_not]; intro c; rcases c with c | c
  · omega
  · exact h c
theorem mkF_no {neg : Bool} {m : Nat} {e : Int} (h0 : 0 < m) (h : ¬ mkOk (od m) (e + tz m)) : mkF neg m e = 0 := by
  unfold mkF; rw [if_neg (by omega), if_neg h]
theorem far_no {m : Nat} {e : Int} (h0 : 0 < m) (hm : m < 18446744073709551616) (he : 1023 < e ∨ e < -1137) : ¬ mkOk (od m) (e + tz m) := by
  have h := tz_spec h0 hm
  have hp := bl_pos (od_pos h0 hm)
  intro c
  obtain ⟨c1, c2, c3⟩ := mkOk_bits c
  omega
theorem Make_c (neg : Bool) (m : Nat) (hm : m < 18446744073709551616) (e : Int) (w : World) (ht : Tabs w) :
    Calls Tryz.prog 178 #[.bool neg, .int .u64 m, .int .i64 e] w fun r w' => r = .returned (.tuple #[.float .f64 (mkF neg m e), .bool (mkB m e)]) ∧ w = w' := by
  by_cases h0 : m = 0
  · subst h0; rw [mkF_zero, mkB_zero]; exact Make_zero neg e w
  · by_cases hf : 1023 < e ∨ e < -1137
    · have hn := far_no (by omega) hm hf
      rw [mkF_no (by omega) hn, mkB_no (by omega) hn]; exact Make_far neg m h0 e hf w
    · by_cases hk : mkOk (od m) (e + tz m)
      · rw [mkF_ok (by omega) hk, mkB_ok hk]; exact Make_ok neg m (by omega) hm e (by omega) (by omega) hk w ht
      · rw [mkF_no (by omega) hk, mkB_no (by omega) hk]; exact Make_bad neg m (by omega) hm e (by omega) (by omega) hk w ht
end Go.Proofs.YtajcapliokblfaaGreatDoor.Bt
namespace Go.Proofs.YtajcapliokblfaaGreatDoor
open Go Go.RowKit Nt
@[irreducible] def pk (m : Nat) (q : Int) : Nat := (q + 1074).toNat * 4503599627370496 + m
theorem pk_eq (m : Nat) (q : Int) : pk m q = (q + 1074).toNat * 4503599627370496 + m := by unfold pk; rfl
theorem pk_lt {m : Nat} {q : Int} (h1 : m ≤ 9007199254740992) (h2 : q ≤ 971) : pk m q ≤ 9218868437227405312 := by rw [pk_eq]; omega
theorem pow_lt_of {a b : Nat} (h : 2 ^ a < 2 ^ b) : a < b := (Nat.pow_lt_pow_iff_right (by omega)).1 h
theorem mk_pk {m : Nat} {q : Int} (h0 : 0 < m) (h1 : m ≤ 9007199254740992) (hq : -1074 ≤ q) (hq2 : q ≤ 971) (hm : 4503599627370496 ≤ m ∨ q = -1074) (hn : ¬ (m = 9007199254740992 ∧ q = 971)) :
    Bt.mkOk (Bt.od m) (q + Bt.tz m) ∧ Bt.mkR (Bt.od m) (q + Bt.tz m) = pk m q := by
  have h64 : m < 18446744073709551616 := by omega
  obtain ⟨e1, e2, _⟩ := Bt.tz_spec h0 h64
  have ho := Bt.od_pos h0 h64
  have ho64 : Bt.od m < 18446744073709551616 := Nat.lt_of_le_of_lt Bt.od_le h64
  have b1 := Bt.bl_lt ho64
  have b2 := Bt.bl_ge ho64 ho
  rw [pk_eq]
  revert e1 e2 ho b1 b2
  generalize Bt.tz m = z
  unfold Bt.mkOk
  generalize Bt.od m = o
  have Z := @Bt.mkR_nor o (q + z)
  have Y := @Bt.mkR_sub o (q + z)
  revert Z Y
  generalize Lib.bitLen o = B
  intro Z Y e1 e2 ho b1 b2
  have zp := Nat.two_pow_pos z
  have c1 : m < 2 ^ (B + z) := by rw [← e1, Nat.pow_add]; exact Nat.mul_lt_mul_of_pos_right b1 zp
  have c2 : 2 ^ (B + z) ≤ 2 * m := by rw [← e1, Nat.pow_add, ← Nat.mul_assoc]; exact Nat.mul_le_mul_right _ b2
  have p52 : (2 : Nat) ^ 52 = 4503599627370496 := by decide
  have p53 : (2 : Nat) ^ 53 = 9007199254740992 := by decide
  have p54 : (2 : Nat) ^ 54 = 18014398509481984 := by decide
  by_cases hb : m = 9007199254740992
  · have k1 : B + z < 55 := pow_lt_of (by rw [show (2:Nat)^55 = 36028797018963968 by decide]; omega)
    have k2 : 53 < B + z := pow_lt_of (by omega)
    have kz : z ≠ 0 := by rintro rfl; rw [Nat.pow_zero, Nat.mul_one] at e1; omega
    refine ⟨⟨by omega, by omega, by omega⟩, ?_⟩
    rw [Z (by omega), show 53 - B = z - 1 by omega]
    have e3 : o * 2 ^ (z - 1) * 2 = m := by rw [Nat.mul_assoc, ← Nat.pow_succ, show (z - 1).succ = z by omega, e1]
    omega
  · have k1 : B + z < 54 := pow_lt_of (by omega)
    by_cases hs : 4503599627370496 ≤ m
    · have k2 : 52 < B + z := pow_lt_of (by omega)
      refine ⟨⟨by omega, by omega, by omega⟩, ?_⟩
      rw [Z (by omega), show 53 - B = z by omega, e1]
      omega
    · have k2 : B + z < 53 := pow_lt_of (by omega)
      obtain rfl : q = -1074 := by omega
      refine ⟨⟨by omega, by omega, by omega⟩, ?_⟩
      rw [Y (by omega), show (-1074 + (z : Int) + 1074).toNat = z by omega, e1]
      omega
end Go.Proofs.YtajcapliokblfaaGreatDoor
namespace Go.Proofs.YtajcapliokblfaaGreatDoor
open Go Go.RowKit Nt
end Go.Proofs.YtajcapliokblfaaGreatDoor
namespace Go.Proofs.YtajcapliokblfaaGreatDoor
open Go Go.RowKit Nt
structure Dt where
  g : Bool
  s : ByteArray
  x : Int
def Dt.v (t : Dt) : Value := .agg #[.bool t.g, .string t.s, .int .i64 t.x]
def Dt.Ok (t : Dt) : Prop := DOk t.g t.s t.x
theorem Dt.small {t : Dt} (h : t.Ok) : t.s.size ≤ 16384 := by
  rcases h with ⟨h, _⟩ | ⟨n, hf, _, h, _⟩
  · rw [h]; decide
  · rw [h, natS_size]; exact hf
def Dts (w : World) (A : Option Addr) (l : List Dt) : Prop := 0 < l.length → ∃ ad, A = some ad ∧ ad.block < w.heap.size ∧ ∀ j (h : j < l.length), w.cell? (ad.add (j * 3)) = some (.bool l[j].g) ∧ w.cell? ⟨(ad.add (j * 3)).block, (ad.add (j * 3)).off + 1, none⟩ = some (.string l[j].s) ∧ w.cell? ⟨(ad.add (j * 3)).block, (ad.add (j * 3)).off + 2, none⟩ = some (.int .i64 l[j].x)
theorem Dts.below {w w' : World} {A : Option Addr} {l : List Dt} (h : Dts w A l) (hb : Below w.heap.size w w') : Dts w' A l := fun h0 => by
  obtain ⟨ad, e, hl, hc⟩ := h h0
  refine ⟨ad, e, Nat.lt_of_lt_of_le hl hb.size, fun j hj => ?_⟩
  obtain ⟨c1, c2, c3⟩ := hc j hj
  exact ⟨(hb.cell (p := ad.add (j * 3)) (by rw [block_of_add']; exact hl)).trans c1, (hb.cell (p := ⟨(ad.add (j * 3)).block, (ad.add (j * 3)).off + 1, none⟩) (by show (ad.add (j * 3)).block < _; rw [block_of_add']; exact hl)).trans c2, (hb.cell (p := ⟨(ad.add (j * 3)).block, (ad.add (j * 3)).off + 2, none⟩) (by show (ad.add (j * 3)).block < _; rw [block_of_add']; exact hl)).trans c3⟩
end Go.Proofs.YtajcapliokblfaaGreatDoor
namespace Go.Proofs.YtajcapliokblfaaGreatDoor
open Go Go.RowKit Nt
def BoxAt (w : World) (B : Nat) (g : Bool) (s : ByteArray) (x : Int) : Prop := B < w.heap.size ∧ w.cell? ⟨B, 0, none⟩ = some (.bool g) ∧ w.cell? ⟨B, 1, none⟩ = some (.string s) ∧ w.cell? ⟨B, 2, none⟩ = some (.int .i64 x)
theorem BoxAt.step {w w' : World} {B : Nat} {g : Bool} {s : ByteArray} {x : Int} (h : BoxAt w B g s x) (hb : Below w.heap.size w w') : BoxAt w' B g s x := by
  obtain ⟨h0, h1, h2, h3⟩ := h
  exact ⟨Nat.lt_of_lt_of_le h0 hb.size, (hb.cell (p := ⟨B, 0, none⟩) h0).trans h1, (hb.cell (p := ⟨B, 1, none⟩) h0).trans h2, (hb.cell (p := ⟨B, 2, none⟩) h0).trans h3⟩
theorem BoxAt.new (w : World) (g : Bool) (s : ByteArray) (x : Int) (T : TypeId) : BoxAt (w.alloc (.cells #[.bool g, .string s, .int .i64 x] T)) w.heap.size g s x :=
  ⟨by simp, (World.cell?_alloc_at _ _ _ _ rfl).trans rfl, (World.cell?_alloc_at _ _ _ _ rfl).trans rfl, (World.cell?_alloc_at _ _ _ _ rfl).trans rfl⟩
def On1 (w : World) (g : Bool) (s : ByteArray) (x : Int) (wc : World) : Prop := Below w.heap.size w wc ∧ BoxAt wc w.heap.size g s x
theorem On1.step {w : World} {g : Bool} {s : ByteArray} {x : Int} {wc w' : World} (h : On1 w g s x wc) (hb : Below wc.heap.size wc w') : On1 w g s x w' := ⟨below_chain h.1 hb, h.2.step hb⟩
theorem On1.new (w : World) (g : Bool) (s : ByteArray) (x : Int) (T : TypeId) : On1 w g s x (w.alloc (.cells #[.bool g, .string s, .int .i64 x] T)) := ⟨(Below.refl _ _).alloc (Nat.le_refl _) _, BoxAt.new w g s x T⟩
def On2 (w : World) (g : Bool) (s : ByteArray) (x : Int) (B : Nat) (wc : World) : Prop := On1 w g s x wc ∧ BoxAt wc B false s x
theorem On2.step {w : World} {g : Bool} {s : ByteArray} {x : Int} {B : Nat} {wc w' : World} (h : On2 w g s x B wc) (hb : Below wc.heap.size wc w') : On2 w g s x B w' := ⟨h.1.step hb, h.2.step hb⟩
theorem On2.start {w : World} {g : Bool} {s : ByteArray} {x : Int} {w1 : World} {T : TypeId} (h : On1 w g s x w1) : On2 w g s x w1.heap.size ((w1.alloc (.cells #[.bool false, .string s, .int .i64 x] T)).drew) := by
  have e : Below w1.heap.size w1 (w1.alloc (.cells #[.bool false, .string s, .int .i64 x] T)) := (Below.refl _ _).alloc (Nat.le_refl _) _
  exact ⟨h.step e.drew, (BoxAt.new w1 false s x T).step (Below.refl _ _).drew⟩
end Go.Proofs.YtajcapliokblfaaGreatDoor
namespace Go.Proofs.YtajcapliokblfaaGreatDoor
open Go Go.RowKit Nt
def Box3 (w : World) (B : Nat) (a b c : Value) : Prop := Blk w B 26 #[a, b, c]
theorem Box3.facts {w : World} {B : Nat} {a b c : Value} (h : Box3 w B a b c) : B < w.heap.size ∧ w.cell? ⟨B, 0, none⟩ = some a ∧ w.cell? ⟨B, 1, none⟩ = some b ∧ w.cell? ⟨B, 2, none⟩ = some c ∧ w.frozen? ⟨B, 0, none⟩ = false ∧ w.frozen? ⟨B, 1, none⟩ = false ∧ w.frozen? ⟨B, 2, none⟩ = false :=
  ⟨Blk.lt h, (Blk.cell h 0).trans rfl, (Blk.cell h 1).trans rfl, (Blk.cell h 2).trans rfl, Blk.frozen h 0, Blk.frozen h 1, Blk.frozen h 2⟩
theorem Box3.step {w w' : World} {B : Nat} {a b c : Value} (h : Box3 w B a b c) (hb : Below w.heap.size w w') : Box3 w' B a b c := Blk.below h hb (Blk.lt h)
theorem Box3.new (w : World) (a b c : Value) : Box3 (w.alloc (.cells #[a, b, c] 26)) w.heap.size a b c := Blk.new w _ _
theorem Box3.more {w : World} {B : Nat} {a b c : Value} (h : Box3 w B a b c) (o : Obj) : Box3 (w.alloc o) B a b c := Blk.alloc h o
theorem Box3.put {w : World} {B : Nat} {a b c : Value} (h : Box3 w B a b c) (a' b' c' : Value) : Box3 (((w.setCell ⟨B, 0, none⟩ a').setCell ⟨B, 1, none⟩ b').setCell ⟨B, 2, none⟩ c') B a' b' c' := by
  have := ((Blk.set_ h 0 a').set_ 1 b').set_ 2 c'
  unfold Box3
  simpa using this
theorem Box3.far {w : World} {B C : Nat} {a b c : Value} (h : Box3 w B a b c) (hne : B ≠ C) (a' b' c' : Value) : Box3 (((w.setCell ⟨C, 0, none⟩ a').setCell ⟨C, 1, none⟩ b').setCell ⟨C, 2, none⟩ c') B a b c :=
  Blk.far (Blk.far (Blk.far h (p := ⟨C, 0, none⟩) hne a') (p := ⟨C, 1, none⟩) hne b') (p := ⟨C, 2, none⟩) hne c'
theorem below_put {n : Nat} {w W : World} {A : Nat} (hb : Below n w W) (hA : n ≤ A) (a' b' c' : Value) : Below n w (((W.setCell ⟨A, 0, none⟩ a').setCell ⟨A, 1, none⟩ b').setCell ⟨A, 2, none⟩ c') :=
  ((hb.setCell (p := ⟨A, 0, none⟩) hA a').setCell (p := ⟨A, 1, none⟩) hA b').setCell (p := ⟨A, 2, none⟩) hA c'
theorem below_then {a b c : World} (h1 : Below a.heap.size a b) (h2 : Below b.heap.size b c) : Below a.heap.size a c := h1.trans (h2.mono h1.size)
end Go.Proofs.YtajcapliokblfaaGreatDoor
namespace Go.Proofs.YtajcapliokblfaaGreatDoor
open Go Go.RowKit Nt
def TB (w : World) (a b : Dt) (W : World) : Prop := Below w.heap.size w W ∧ Box3 W w.heap.size (.bool a.g) (.string a.s) (.int .i64 a.x) ∧ Box3 W (w.heap.size + 1) (.bool b.g) (.string b.s) (.int .i64 b.x)
theorem TB.start (w : World) (a b : Dt) : TB w a b ((w.alloc (.cells #[.bool a.g, .string a.s, .int .i64 a.x] 26)).alloc (.cells #[.bool b.g, .string b.s, .int .i64 b.x] 26)) := by
  have e : (w.alloc (.cells #[.bool a.g, .string a.s, .int .i64 a.x] 26)).heap.size = w.heap.size + 1 := by simp
  refine ⟨((Below.refl _ _).alloc (Nat.le_refl _) _).alloc (by simp) _, (Box3.new w _ _ _).more _, ?_⟩
  rw [← e]
  exact Box3.new _ _ _ _
theorem TB.step {w : World} {a b : Dt} {W W' : World} (h : TB w a b W) (hb : Below W.heap.size W W') : TB w a b W' := ⟨below_then h.1 hb, h.2.1.step hb, h.2.2.step hb⟩
theorem TB.more {w : World} {a b : Dt} {W : World} (h : TB w a b W) (o : Obj) : TB w a b (W.alloc o) := h.step ((Below.refl _ _).alloc (Nat.le_refl _) _)
theorem TB.drawn {w : World} {a b : Dt} {W : World} (h : TB w a b W) (n : Nat) : TB w a b (W.drewN n) := h.step (below_drewN (Below.refl _ _) n)
theorem TB.drew {w : World} {a b : Dt} {W : World} (h : TB w a b W) : TB w a b W.drew := h.step (Below.refl _ _).drew
def Dy.t (d : Dy) : Dt := ⟨d.g, natS d.n, d.x⟩
theorem Dy.t_ok {d : Dy} (h : d.Num) : d.t.Ok := Or.inr ⟨d.n, h.1, h.2.1, rfl, h.2.2.1, h.2.2.2⟩
end Go.Proofs.YtajcapliokblfaaGreatDoor
namespace Go.Proofs.YtajcapliokblfaaGreatDoor
open Go Go.RowKit Nt
theorem Dy.ok_t {d : Dy} (h : d.Ok) : d.t.Ok := by
  rcases h with rfl | h
  · exact Or.inl ⟨natS_zero, rfl, rfl⟩
  · exact Dy.t_ok h
theorem Dy.small {d : Dy} (h : d.Ok) : (natS d.n).size ≤ 16384 := Dt.small (Dy.ok_t h)
end Go.Proofs.YtajcapliokblfaaGreatDoor
namespace Go.Proofs.YtajcapliokblfaaGreatDoor
open Go Go.RowKit Nt
def OB (w : World) (a : Dt) (W : World) : Prop := Below w.heap.size w W ∧ Box3 W w.heap.size (.bool a.g) (.string a.s) (.int .i64 a.x)
theorem OB.start (w : World) (a : Dt) : OB w a (w.alloc (.cells #[.bool a.g, .string a.s, .int .i64 a.x] 26)) := ⟨(Below.refl _ _).alloc (Nat.le_refl _) _, Box3.new w _ _ _⟩
theorem OB.step {w : World} {a : Dt} {W W' : World} (h : OB w a W) (hb : Below W.heap.size W W') : OB w a W' := ⟨below_then h.1 hb, h.2.step hb⟩
theorem OB.more {w : World} {a : Dt} {W : World} (h : OB w a W) (o : Obj) : OB w a (W.alloc o) := h.step ((Below.refl _ _).alloc (Nat.le_refl _) _)
end Go.Proofs.YtajcapliokblfaaGreatDoor
namespace Go.Proofs.YtajcapliokblfaaGreatDoor
open Go Go.RowKit Nt
def TC (w : World) (a b : Dt) (W : World) : Prop := TB w a b W ∧ Box3 W (w.heap.size + 2) (.bool false) (.string ⟨#[]⟩) (.int .i64 0)
theorem TC.start (w : World) (a b : Dt) : TC w a b (((w.alloc (.cells #[.bool a.g, .string a.s, .int .i64 a.x] 26)).alloc (.cells #[.bool b.g, .string b.s, .int .i64 b.x] 26)).alloc (.cells #[.bool false, .string ⟨#[]⟩, .int .i64 0] 26)) := by
  refine ⟨(TB.start w a b).more _, ?_⟩
  have := Box3.new ((w.alloc (.cells #[.bool a.g, .string a.s, .int .i64 a.x] 26)).alloc (.cells #[.bool b.g, .string b.s, .int .i64 b.x] 26)) (.bool false) (.string ⟨#[]⟩) (.int .i64 0)
  simpa using this
theorem TC.step {w : World} {a b : Dt} {W W' : World} (h : TC w a b W) (hb : Below W.heap.size W W') : TC w a b W' := ⟨h.1.step hb, h.2.step hb⟩
theorem TC.more {w : World} {a b : Dt} {W : World} (h : TC w a b W) (o : Obj) : TC w a b (W.alloc o) := h.step ((Below.refl _ _).alloc (Nat.le_refl _) _)
theorem TC.drawn {w : World} {a b : Dt} {W : World} (h : TC w a b W) (n : Nat) : TC w a b (W.drewN n) := h.step (below_drewN (Below.refl _ _) n)
theorem TC.drew {w : World} {a b : Dt} {W : World} (h : TC w a b W) : TC w a b W.drew := h.step (Below.refl _ _).drew
theorem TC.fin {w : World} {a b : Dt} {W : World} (h : TC w a b W) (x y z : Value) : Below w.heap.size w (((W.setCell ⟨w.heap.size + 2, 0, none⟩ x).setCell ⟨w.heap.size + 2, 1, none⟩ y).setCell ⟨w.heap.size + 2, 2, none⟩ z) := below_put h.1.1 (by omega) x y z
end Go.Proofs.YtajcapliokblfaaGreatDoor
namespace Go.Proofs.YtajcapliokblfaaGreatDoor
open Go Go.RowKit Nt
def TD (w : World) (a b : Dt) (W : World) : Prop := TB w a b W ∧ ∃ x y z, Box3 W (w.heap.size + 2) x y z
theorem TD.step {w : World} {a b : Dt} {W W' : World} (h : TD w a b W) (hb : Below W.heap.size W W') : TD w a b W' := by
  obtain ⟨h1, x, y, z, h2⟩ := h; exact ⟨h1.step hb, x, y, z, h2.step hb⟩
theorem TD.drawn {w : World} {a b : Dt} {W : World} (h : TD w a b W) (n : Nat) : TD w a b (W.drewN n) := h.step (below_drewN (Below.refl _ _) n)
theorem TD.drew {w : World} {a b : Dt} {W : World} (h : TD w a b W) : TD w a b W.drew := h.step (Below.refl _ _).drew
theorem TD.put {w : World} {a b : Dt} {W : World} (h : TD w a b W) (x y z : Value) : TD w a b (((W.setCell ⟨w.heap.size + 2, 0, none⟩ x).setCell ⟨w.heap.size + 2, 1, none⟩ y).setCell ⟨w.heap.size + 2, 2, none⟩ z) := by
  obtain ⟨⟨h1, h2, h3⟩, x', y', z', h4⟩ := h
  exact ⟨⟨below_put h1 (by omega) _ _ _, h2.far (by omega) _ _ _, h3.far (by omega) _ _ _⟩, _, _, _, h4.put _ _ _⟩
theorem TD.res {w : World} {a b : Dt} {W : World} (h : TD w a b W) : w.heap.size + 2 < W.heap.size ∧ (W.cell? ⟨w.heap.size + 2, 0, none⟩).isSome = true ∧ (W.cell? ⟨w.heap.size + 2, 1, none⟩).isSome = true ∧ (W.cell? ⟨w.heap.size + 2, 2, none⟩).isSome = true ∧ W.frozen? ⟨w.heap.size + 2, 0, none⟩ = false ∧ W.frozen? ⟨w.heap.size + 2, 1, none⟩ = false ∧ W.frozen? ⟨w.heap.size + 2, 2, none⟩ = false := by
  obtain ⟨h1, x, y, z, h4⟩ := h
  obtain ⟨r0, r1, r2, r3, r4, r5, r6⟩ := h4.facts
  exact ⟨r0, by rw [r1]; rfl, by rw [r2]; rfl, by rw [r3]; rfl, r4, r5, r6⟩
@[irreducible] def cellAt (W : World) (B i : Nat) : Value := (W.cell? ⟨B, i, none⟩).getD undef
theorem cellAt_eq {W : World} {B i : Nat} {v : Value} (h : W.cell? ⟨B, i, none⟩ = some v) : W.cell? ⟨B, i, none⟩ = some (cellAt W B i) := by unfold cellAt; rw [h]; rfl
theorem TD.cells {w : World} {a b : Dt} {W : World} (h : TD w a b W) : w.heap.size + 2 < W.heap.size ∧ W.cell? ⟨w.heap.size + 2, 0, none⟩ = some (cellAt W (w.heap.size + 2) 0) ∧ W.cell? ⟨w.heap.size + 2, 1, none⟩ = some (cellAt W (w.heap.size + 2) 1) ∧ W.cell? ⟨w.heap.size + 2, 2, none⟩ = some (cellAt W (w.heap.size + 2) 2) ∧ W.frozen? ⟨w.heap.size + 2, 0, none⟩ = false ∧ W.frozen? ⟨w.heap.size + 2, 1, none⟩ = false ∧ W.frozen? ⟨w.heap.size + 2, 2, none⟩ = false := by
  obtain ⟨h1, x, y, z, h4⟩ := h
  obtain ⟨r0, r1, r2, r3, r4, r5, r6⟩ := h4.facts
  exact ⟨r0, cellAt_eq r1, cellAt_eq r2, cellAt_eq r3, r4, r5, r6⟩
end Go.Proofs.YtajcapliokblfaaGreatDoor
namespace Go.Proofs.YtajcapliokblfaaGreatDoor
open Go Go.RowKit Nt
end Go.Proofs.YtajcapliokblfaaGreatDoor
namespace Go.Proofs.YtajcapliokblfaaGreatDoor
open Go Go.RowKit Nt
end Go.Proofs.YtajcapliokblfaaGreatDoor
namespace Go.Proofs.YtajcapliokblfaaGreatDoor
open Go Go.RowKit Nt
def OC (w : World) (a : Dt) (W : World) : Prop := OB w a W ∧ Box3 W (w.heap.size + 1) (.bool false) (.string ⟨#[]⟩) (.int .i64 0)
theorem OC.start (w : World) (a : Dt) : OC w a ((w.alloc (.cells #[.bool a.g, .string a.s, .int .i64 a.x] 26)).alloc (.cells #[.bool false, .string ⟨#[]⟩, .int .i64 0] 26)) := by
  refine ⟨(OB.start w a).more _, ?_⟩
  have := Box3.new (w.alloc (.cells #[.bool a.g, .string a.s, .int .i64 a.x] 26)) (.bool false) (.string ⟨#[]⟩) (.int .i64 0)
  simpa using this
theorem OC.step {w : World} {a : Dt} {W W' : World} (h : OC w a W) (hb : Below W.heap.size W W') : OC w a W' := ⟨h.1.step hb, h.2.step hb⟩
theorem OC.more {w : World} {a : Dt} {W : World} (h : OC w a W) (o : Obj) : OC w a (W.alloc o) := h.step ((Below.refl _ _).alloc (Nat.le_refl _) _)
theorem OC.fin {w : World} {a : Dt} {W : World} (h : OC w a W) (x y z : Value) : Below w.heap.size w (((W.setCell ⟨w.heap.size + 1, 0, none⟩ x).setCell ⟨w.heap.size + 1, 1, none⟩ y).setCell ⟨w.heap.size + 1, 2, none⟩ z) := below_put h.1.1 (by omega) x y z
end Go.Proofs.YtajcapliokblfaaGreatDoor
namespace Go.Proofs.YtajcapliokblfaaGreatDoor
open Go Go.RowKit Nt
theorem DRow.below {w w' : World} {A : Option Addr} {n L : Nat} (h : DRow w A n L) (hb : Below w.heap.size w w') : DRow w' A n L := fun j hj => by
  obtain ⟨g, e, hg, hc⟩ := h j hj
  exact ⟨g, e, Nat.lt_of_lt_of_le hg hb.size, (hb.cell (p := ⟨g, j, none⟩) hg).trans hc⟩
end Go.Proofs.YtajcapliokblfaaGreatDoor
set_option linter.unusedSectionVars false
namespace Go.Proofs.YtajcapliokblfaaGreatDoor
open Go Go.RowKit Nt
theorem natS_inj {m n : Nat} : natS m = natS n ↔ m = n := by
  constructor
  · intro h
    have : (natS m).toList = (natS n).toList := by rw [h]
    exact (natS_list_eq m n).1 this
  · rintro rfl; rfl
section
variable [Env]
end
def Dy.one : Dy := ⟨false, 1, 0⟩
end Go.Proofs.YtajcapliokblfaaGreatDoor
namespace Go.Proofs.YtajcapliokblfaaGreatDoor
open Go Go.RowKit Nt
@[irreducible] def okP (m : Nat) (q : Int) : Bool := decide (¬ (m = 9007199254740992 ∧ q = 971))
theorem okP_iff {m : Nat} {q : Int} : okP m q = true ↔ ¬ (m = 9007199254740992 ∧ q = 971) := by unfold okP; exact decide_eq_true_iff
theorem okP_lt {m : Nat} {q : Int} (h : m < 9007199254740992) : okP m q = true := okP_iff.2 (fun c => by omega)
@[irreducible] def mkW (g : Bool) (m : Nat) (q : Int) : Nat := if okP m q = true then Bt.wf g (pk m q) else 0
theorem mkW_ok {g : Bool} {m : Nat} {q : Int} (h : okP m q = true) : mkW g m q = Bt.wf g (pk m q) := by unfold mkW; rw [if_pos h]
theorem wf_f (x : Nat) : Bt.wf false x = x := by rw [Bt.wf_eq]; rfl
theorem inf_f {m : Nat} {q : Int} (h : ¬ okP m q = true) : Bt.wf false (pk m q) = 9218868437227405312 := by
  have h := Classical.not_not.1 (fun c => h (okP_iff.2 c))
  rw [h.1, h.2, wf_f, pk_eq]; rfl
theorem inf_t {m : Nat} {q : Int} (h : ¬ okP m q = true) : Bt.wf true (pk m q) = 18442240474082181120 := by
  have h := Classical.not_not.1 (fun c => h (okP_iff.2 c))
  rw [h.1, h.2, Bt.wf_eq, if_pos rfl, Bt.topped_eq, pk_eq]; rfl
theorem pk_zero : pk 0 (-1074) = 0 := by rw [pk_eq]; rfl
theorem bMake_i (g : Bool) (m : Nat) (q : Int) (w : World) (h1 : m ≤ 9007199254740992) (hq : -1074 ≤ q) (hq2 : q ≤ 971) (hm : 4503599627370496 ≤ m ∨ q = -1074) {b : Bool} (hb : b = true ↔ okP m q = true) (hG : Globs glT w) :
    Calls Tryz.prog 178 #[.bool g, .int .u64 m, .int .i64 q] w fun e w' => e = .returned (.tuple #[.float .f64 (mkW g m q), .bool b]) ∧ Below w.heap.size w w' := by
  refine (Bt.Make_c g m (by omega) q w (tabs_of hG)).mono ?_
  rintro e w' ⟨rfl, rfl⟩
  refine ⟨?_, Below.refl _ _⟩
  rw [Bool.eq_iff_iff.2 hb]
  by_cases h0 : m = 0
  · subst h0
    obtain rfl : q = -1074 := by omega
    rw [Bt.mkF_zero, Bt.mkB_zero, mkW_ok (okP_lt (by omega)), okP_lt (by omega), pk_zero]
  · by_cases hk : m = 9007199254740992 ∧ q = 971
    · obtain ⟨rfl, rfl⟩ := hk
      have e1 : ¬ okP 9007199254740992 971 = true := fun c => okP_iff.1 c ⟨rfl, rfl⟩
      have e2 : ¬ Bt.mkOk (Bt.od 9007199254740992) ((971 : Int) + Bt.tz 9007199254740992) := by
        rintro ⟨_, _, c⟩
        have h3 := Bt.tz_spec (m := 9007199254740992) (by omega) (by omega)
        have h4 := Bt.bl_lt (m := Bt.od 9007199254740992) (Nat.lt_of_le_of_lt Bt.od_le (by omega))
        revert h3 h4 c
        generalize Bt.tz 9007199254740992 = z
        generalize Bt.od 9007199254740992 = o
        generalize Lib.bitLen o = B
        intro c h3 h4
        have h5 : 9007199254740992 < 2 ^ (B + z) := by rw [← h3.1, Nat.pow_add]; exact Nat.mul_lt_mul_of_pos_right h4 (Nat.two_pow_pos z)
        have h6 : 53 < B + z := pow_lt_of (by rw [show (2 : Nat) ^ 53 = 9007199254740992 by decide]; exact h5)
        omega
      rw [Bt.mkF_no (by omega) e2, Bt.mkB_no (by omega) e2, Bool.eq_false_iff.2 e1]
      unfold mkW; rw [if_neg e1]
    · obtain ⟨e1, e2⟩ := mk_pk (by omega) h1 hq hq2 hm hk
      have e3 : okP m q = true := okP_iff.2 hk
      rw [Bt.mkF_ok (by omega) e1, Bt.mkB_ok e1, e2, mkW_ok e3, e3]
section
variable [Env]
theorem opt_add64 {P : Program} {t : TypeId} {a b r : AV} {x y z : Nat} (ha : gval a = .int .u64 x) (hb : gval b = .int .u64 y) (hr : ground r = true) (hv : gval r = .int .u64 z) (h : x + y = z) (h1 : z < 18446744073709551616) : OpT P [0, 0, t] [a, b] r :=
  opt_int (op := .add) ha hb hr hv fun w => by
    have : IntKind.u64.wrap ((x : Int) + (y : Int)) = z := by rw [IntKind.wrap_u64]; omega
    simp [binOp, Op.intArith, this]
theorem opt_odd {P : Program} {t : TypeId} {a b r : AV} {x : Nat} (ha : gval a = .int .u64 x) (hb : gval b = .int .u64 1) (hr : ground r = true) (hv : gval r = .int .u64 (x % 2 : Nat)) (h1 : x < 18446744073709551616) : OpT P [0, 5, t] [a, b] r :=
  opt_int (op := .and) ha hb hr hv fun w => by
    have : bits BinOp.and IntKind.u64 (x : Int) 1 = ((x % 2 : Nat) : Int) := by
      have e1 : (BitVec.ofInt 64 (x : Int)).toNat = x := by
        rw [BitVec.ofInt_natCast, BitVec.toNat_ofNat]; exact Nat.mod_eq_of_lt (by omega)
      have e2 : (BitVec.ofInt 64 (1 : Int)).toNat = 1 := by decide
      show IntKind.u64.wrap ((BitVec.ofInt 64 (x : Int) &&& BitVec.ofInt 64 (1 : Int)).toNat : Int) = _
      rw [BitVec.toNat_and, e1, e2, Nat.and_one_is_mod, IntKind.wrap_u64]
      omega
    go_simp
end
end Go.Proofs.YtajcapliokblfaaGreatDoor
namespace Go.Proofs.YtajcapliokblfaaGreatDoor
open Go Go.RowKit Nt
@[reducible] def RF_Near_f0_f : FuncId := 140
@[reducible] def RF_Near_f0_a : List AV := [.lit (.bool false), .sym 0, .sym 1, .lit (.int .u8 0), .lit (.func (.func 90) #[] #[])]
@[reducible] noncomputable def RF_Near_f0_k : Know := ⟨[],
  [(178, [.lit (.bool false), .sym 0, .sym 1], .tup [.sym 2, .lit (.bool true)])]⟩
theorem RF_Near_f0_r1 : @comes RF_Near_f0_k Tryz.prog glT 3000 RF_Near_f0_f RF_Near_f0_a = some (.sym 2) := by kernel_rfl
set_option maxRecDepth 100000 in
set_option maxHeartbeats 4000000 in
theorem RF_Near_f0 (m : Nat) (q : Int) (w : World) (hG : Globs glT w) (hm : m < 9007199254740992) (hq1 : -1074 ≤ q) (hq2 : q ≤ 971) (hmn : 4503599627370496 ≤ m ∨ q = -1074) : Calls Tryz.prog 140 #[.bool false, .int .u64 (((m : Nat) : Int)), .int .i64 q, .int .u8 0, .func (.func 90) #[] #[]] w fun e w' => e = .returned (.float .f64 (Bt.wf false (pk (m) q))) ∧ Below w.heap.size w w' := by
  have h1 : okP m q = true := okP_lt hm
  have i1 : true = true ↔ (okP m q = true) := ⟨fun _ => h1, fun _ => rfl⟩
  letI : Env := mkEnv glT [.int .u64 (((m : Nat) : Int)), .int .i64 q, .float .f64 (mkW false m q)] rfl
  have hops : OpsT Tryz.prog (@Know.ops RF_Near_f0_k) := trivial
  have hcalls : CallsT Tryz.prog (@Know.calls RF_Near_f0_k) := ⟨callt rfl rfl fun w hG => bMake_i false m q w (by omega) hq1 hq2 hmn i1 hG,
    trivial⟩
  have fin : ∀ v, @comes RF_Near_f0_k Tryz.prog glT 3000 RF_Near_f0_f RF_Near_f0_a = some v → ground v = true → Ending.returned (gval v) = .returned (.float .f64 (Bt.wf false (pk (m) q))) → Calls Tryz.prog 140 #[.bool false, .int .u64 (((m : Nat) : Int)), .int .i64 q, .int .u8 0, .func (.func 90) #[] #[]] w fun e w' => e = .returned (.float .f64 (Bt.wf false (pk (m) q))) ∧ Below w.heap.size w w' := fun v h1 h2 h3 => (@sym_ok _ RF_Near_f0_k _ (@KnowOk.of _ RF_Near_f0_k _ hops hcalls) (by kernel_rfl) _ _ _ _ h1 rfl h2 _ hG).mono fun e w' h => ⟨h.1.trans h3, h.2⟩
  clear hops hcalls
  exact fin _ (RF_Near_f0_r1) rfl (show Ending.returned (.float .f64 (mkW false m q)) = .returned (.float .f64 (Bt.wf false (pk (m) q))) from by rw [mkW_ok h1])
@[reducible] def RF_Near_f1_f : FuncId := 140
@[reducible] def RF_Near_f1_a : List AV := [.lit (.bool false), .sym 0, .sym 1, .lit (.int .u8 1), .lit (.func (.func 90) #[] #[])]
@[reducible] noncomputable def RF_Near_f1_k (b2 : Bool) : Know := ⟨[([0, 5, 66], [.sym 0, .lit (.int .u64 1)], .sym 3),
  ([0, 11, 66], [.sym 3, .lit (.int .u64 1)], .lit (.bool b2))],
  [(178, [.lit (.bool false), .sym 0, .sym 1], .tup [.sym 2, .lit (.bool true)])]⟩
theorem RF_Near_f1_r1 : @comes (RF_Near_f1_k true) Tryz.prog glT 3000 RF_Near_f1_f RF_Near_f1_a = some (.sym 2) := by kernel_rfl
theorem RF_Near_f1_r2 : @comes (RF_Near_f1_k false) Tryz.prog glT 3000 RF_Near_f1_f RF_Near_f1_a = some (.sym 2) := by kernel_rfl
set_option maxRecDepth 100000 in
set_option maxHeartbeats 4000000 in
theorem RF_Near_f1 (m : Nat) (q : Int) (w : World) (hG : Globs glT w) (hm : m < 9007199254740992) (hq1 : -1074 ≤ q) (hq2 : q ≤ 971) (hmn : 4503599627370496 ≤ m ∨ q = -1074) : Calls Tryz.prog 140 #[.bool false, .int .u64 (((m : Nat) : Int)), .int .i64 q, .int .u8 1, .func (.func 90) #[] #[]] w fun e w' => e = .returned (.float .f64 (Bt.wf false (pk (m) q))) ∧ Below w.heap.size w w' := by
  have h1 : okP m q = true := okP_lt hm
  have i1 : true = true ↔ (okP m q = true) := ⟨fun _ => h1, fun _ => rfl⟩
  obtain ⟨b2, i2⟩ := bex (((m % 2 : Nat) : Int) = 1)
  letI : Env := mkEnv glT [.int .u64 (((m : Nat) : Int)), .int .i64 q, .float .f64 (mkW false m q), .int .u64 (((m % 2 : Nat) : Int))] rfl
  have hops : OpsT Tryz.prog (@Know.ops (RF_Near_f1_k b2)) := ⟨opt_odd rfl rfl rfl rfl (by omega),
    opt_eql_i rfl rfl i2,
    trivial⟩
  have hcalls : CallsT Tryz.prog (@Know.calls (RF_Near_f1_k b2)) := ⟨callt rfl rfl fun w hG => bMake_i false m q w (by omega) hq1 hq2 hmn i1 hG,
    trivial⟩
  have fin : ∀ v, @comes (RF_Near_f1_k b2) Tryz.prog glT 3000 RF_Near_f1_f RF_Near_f1_a = some v → ground v = true → Ending.returned (gval v) = .returned (.float .f64 (Bt.wf false (pk (m) q))) → Calls Tryz.prog 140 #[.bool false, .int .u64 (((m : Nat) : Int)), .int .i64 q, .int .u8 1, .func (.func 90) #[] #[]] w fun e w' => e = .returned (.float .f64 (Bt.wf false (pk (m) q))) ∧ Below w.heap.size w w' := fun v h1 h2 h3 => (@sym_ok _ (RF_Near_f1_k b2) _ (@KnowOk.of _ (RF_Near_f1_k b2) _ hops hcalls) (by kernel_rfl) _ _ _ _ h1 rfl h2 _ hG).mono fun e w' h => ⟨h.1.trans h3, h.2⟩
  clear hops hcalls
  cases b2 with
  | true =>
    have h2 : ((m % 2 : Nat) : Int) = 1 := i2.1 rfl
    exact fin _ (RF_Near_f1_r1) rfl (show Ending.returned (.float .f64 (mkW false m q)) = .returned (.float .f64 (Bt.wf false (pk (m) q))) from by rw [mkW_ok h1])
  | false =>
    have h2 : ¬ (((m % 2 : Nat) : Int) = 1) := fun c => Bool.false_ne_true (i2.2 c)
    exact fin _ (RF_Near_f1_r2) rfl (show Ending.returned (.float .f64 (mkW false m q)) = .returned (.float .f64 (Bt.wf false (pk (m) q))) from by rw [mkW_ok h1])
@[reducible] def RF_Near_f2o_f : FuncId := 140
@[reducible] def RF_Near_f2o_a : List AV := [.lit (.bool false), .sym 0, .sym 1, .lit (.int .u8 2), .lit (.func (.func 90) #[] #[])]
@[reducible] noncomputable def RF_Near_f2o_k (b1 b2 b3 : Bool) : Know := ⟨[([0, 5, 66], [.sym 0, .lit (.int .u64 1)], .sym 2),
  ([0, 11, 66], [.sym 2, .lit (.int .u64 1)], .lit (.bool b1)),
  ([0, 0, 66], [.sym 0, .lit (.int .u64 1)], .sym 3)],
  [(178, [.lit (.bool false), .sym 3, .sym 1], .tup [.sym 4, .lit (.bool b2)]),
  (178, [.lit (.bool false), .sym 0, .sym 1], .tup [.sym 5, .lit (.bool b3)])]⟩
theorem RF_Near_f2o_r1 (b3 : Bool) : @comes (RF_Near_f2o_k true true b3) Tryz.prog glT 3000 RF_Near_f2o_f RF_Near_f2o_a = some (.sym 4) := by kernel_rfl
theorem RF_Near_f2o_r2 (b3 : Bool) : @comes (RF_Near_f2o_k true false b3) Tryz.prog glT 3000 RF_Near_f2o_f RF_Near_f2o_a = some (.lit (.float .f64 9218868437227405312)) := by kernel_rfl
set_option maxRecDepth 100000 in
set_option maxHeartbeats 4000000 in
theorem RF_Near_f2o (m : Nat) (q : Int) (w : World) (hG : Globs glT w) (hm : m < 9007199254740992) (hq1 : -1074 ≤ q) (hq2 : q ≤ 971) (hmn : 4503599627370496 ≤ m ∨ q = -1074) (ho : m % 2 = 1) : Calls Tryz.prog 140 #[.bool false, .int .u64 (((m : Nat) : Int)), .int .i64 q, .int .u8 2, .func (.func 90) #[] #[]] w fun e w' => e = .returned (.float .f64 (Bt.wf false (pk (m + 1) q))) ∧ Below w.heap.size w w' := by
  obtain ⟨b1, i1⟩ := bex (((m % 2 : Nat) : Int) = 1)
  obtain ⟨b2, i2⟩ := bex (okP (m + 1) q = true)
  obtain ⟨b3, i3⟩ := bex (okP m q = true)
  letI : Env := mkEnv glT [.int .u64 (((m : Nat) : Int)), .int .i64 q, .int .u64 (((m % 2 : Nat) : Int)), .int .u64 (((m + 1 : Nat) : Int)), .float .f64 (mkW false (m + 1) q), .float .f64 (mkW false m q)] rfl
  have hops : OpsT Tryz.prog (@Know.ops (RF_Near_f2o_k b1 b2 b3)) := ⟨opt_odd rfl rfl rfl rfl (by omega),
    opt_eql_i rfl rfl i1,
    opt_add64 (y := 1) rfl rfl rfl rfl rfl (by omega),
    trivial⟩
  have hcalls : CallsT Tryz.prog (@Know.calls (RF_Near_f2o_k b1 b2 b3)) := ⟨callt rfl rfl fun w hG => bMake_i false (m + 1) q w (by omega) hq1 hq2 (hmn.imp (fun h => Nat.le_succ_of_le h) id) i2 hG,
    callt rfl rfl fun w hG => bMake_i false m q w (by omega) hq1 hq2 hmn i3 hG,
    trivial⟩
  have fin : ∀ v, @comes (RF_Near_f2o_k b1 b2 b3) Tryz.prog glT 3000 RF_Near_f2o_f RF_Near_f2o_a = some v → ground v = true → Ending.returned (gval v) = .returned (.float .f64 (Bt.wf false (pk (m + 1) q))) → Calls Tryz.prog 140 #[.bool false, .int .u64 (((m : Nat) : Int)), .int .i64 q, .int .u8 2, .func (.func 90) #[] #[]] w fun e w' => e = .returned (.float .f64 (Bt.wf false (pk (m + 1) q))) ∧ Below w.heap.size w w' := fun v h1 h2 h3 => (@sym_ok _ (RF_Near_f2o_k b1 b2 b3) _ (@KnowOk.of _ (RF_Near_f2o_k b1 b2 b3) _ hops hcalls) (by kernel_rfl) _ _ _ _ h1 rfl h2 _ hG).mono fun e w' h => ⟨h.1.trans h3, h.2⟩
  clear hops hcalls
  cases b1 with
  | true =>
    have h1 : ((m % 2 : Nat) : Int) = 1 := i1.1 rfl
    cases b2 with
    | true =>
      have h2 : okP (m + 1) q = true := i2.1 rfl
      exact fin _ (RF_Near_f2o_r1 b3) rfl (show Ending.returned (.float .f64 (mkW false (m + 1) q)) = .returned (.float .f64 (Bt.wf false (pk (m + 1) q))) from by rw [mkW_ok h2])
    | false =>
      have h2 : ¬ (okP (m + 1) q = true) := fun c => Bool.false_ne_true (i2.2 c)
      exact fin _ (RF_Near_f2o_r2 b3) rfl (show Ending.returned (.float .f64 9218868437227405312) = .returned (.float .f64 (Bt.wf false (pk (m + 1) q))) from by rw [inf_f h2])
  | false =>
    exact absurd (i1.2 ((by omega))) Bool.false_ne_true
@[reducible] def RF_Near_f2e_f : FuncId := 140
@[reducible] def RF_Near_f2e_a : List AV := [.lit (.bool false), .sym 0, .sym 1, .lit (.int .u8 2), .lit (.func (.func 90) #[] #[])]
@[reducible] noncomputable def RF_Near_f2e_k (b1 b2 : Bool) : Know := ⟨[([0, 5, 66], [.sym 0, .lit (.int .u64 1)], .sym 2),
  ([0, 11, 66], [.sym 2, .lit (.int .u64 1)], .lit (.bool b1)),
  ([0, 0, 66], [.sym 0, .lit (.int .u64 1)], .sym 3)],
  [(178, [.lit (.bool false), .sym 3, .sym 1], .tup [.sym 4, .lit (.bool b2)]),
  (178, [.lit (.bool false), .sym 0, .sym 1], .tup [.sym 5, .lit (.bool true)])]⟩
theorem RF_Near_f2e_r1 (b2 : Bool) : @comes (RF_Near_f2e_k false b2) Tryz.prog glT 3000 RF_Near_f2e_f RF_Near_f2e_a = some (.sym 5) := by kernel_rfl
set_option maxRecDepth 100000 in
set_option maxHeartbeats 4000000 in
theorem RF_Near_f2e (m : Nat) (q : Int) (w : World) (hG : Globs glT w) (hm : m < 9007199254740992) (hq1 : -1074 ≤ q) (hq2 : q ≤ 971) (hmn : 4503599627370496 ≤ m ∨ q = -1074) (ho : m % 2 = 0) : Calls Tryz.prog 140 #[.bool false, .int .u64 (((m : Nat) : Int)), .int .i64 q, .int .u8 2, .func (.func 90) #[] #[]] w fun e w' => e = .returned (.float .f64 (Bt.wf false (pk (m) q))) ∧ Below w.heap.size w w' := by
  obtain ⟨b1, i1⟩ := bex (((m % 2 : Nat) : Int) = 1)
  obtain ⟨b2, i2⟩ := bex (okP (m + 1) q = true)
  have h3 : okP m q = true := okP_lt hm
  have i3 : true = true ↔ (okP m q = true) := ⟨fun _ => h3, fun _ => rfl⟩
  letI : Env := mkEnv glT [.int .u64 (((m : Nat) : Int)), .int .i64 q, .int .u64 (((m % 2 : Nat) : Int)), .int .u64 (((m + 1 : Nat) : Int)), .float .f64 (mkW false (m + 1) q), .float .f64 (mkW false m q)] rfl
  have hops : OpsT Tryz.prog (@Know.ops (RF_Near_f2e_k b1 b2)) := ⟨opt_odd rfl rfl rfl rfl (by omega),
    opt_eql_i rfl rfl i1,
    opt_add64 (y := 1) rfl rfl rfl rfl rfl (by omega),
    trivial⟩
  have hcalls : CallsT Tryz.prog (@Know.calls (RF_Near_f2e_k b1 b2)) := ⟨callt rfl rfl fun w hG => bMake_i false (m + 1) q w (by omega) hq1 hq2 (hmn.imp (fun h => Nat.le_succ_of_le h) id) i2 hG,
    callt rfl rfl fun w hG => bMake_i false m q w (by omega) hq1 hq2 hmn i3 hG,
    trivial⟩
  have fin : ∀ v, @comes (RF_Near_f2e_k b1 b2) Tryz.prog glT 3000 RF_Near_f2e_f RF_Near_f2e_a = some v → ground v = true → Ending.returned (gval v) = .returned (.float .f64 (Bt.wf false (pk (m) q))) → Calls Tryz.prog 140 #[.bool false, .int .u64 (((m : Nat) : Int)), .int .i64 q, .int .u8 2, .func (.func 90) #[] #[]] w fun e w' => e = .returned (.float .f64 (Bt.wf false (pk (m) q))) ∧ Below w.heap.size w w' := fun v h1 h2 h3 => (@sym_ok _ (RF_Near_f2e_k b1 b2) _ (@KnowOk.of _ (RF_Near_f2e_k b1 b2) _ hops hcalls) (by kernel_rfl) _ _ _ _ h1 rfl h2 _ hG).mono fun e w' h => ⟨h.1.trans h3, h.2⟩
  clear hops hcalls
  cases b1 with
  | true =>
    exact absurd (i1.1 rfl) ((by omega))
  | false =>
    have h1 : ¬ (((m % 2 : Nat) : Int) = 1) := fun c => Bool.false_ne_true (i1.2 c)
    exact fin _ (RF_Near_f2e_r1 b2) rfl (show Ending.returned (.float .f64 (mkW false m q)) = .returned (.float .f64 (Bt.wf false (pk (m) q))) from by rw [mkW_ok h3])
@[reducible] def RF_Near_f3_f : FuncId := 140
@[reducible] def RF_Near_f3_a : List AV := [.lit (.bool false), .sym 0, .sym 1, .lit (.int .u8 3), .lit (.func (.func 90) #[] #[])]
@[reducible] noncomputable def RF_Near_f3_k (b1 b2 : Bool) : Know := ⟨[([0, 5, 66], [.sym 0, .lit (.int .u64 1)], .sym 2),
  ([0, 11, 66], [.sym 2, .lit (.int .u64 1)], .lit (.bool b1)),
  ([0, 0, 66], [.sym 0, .lit (.int .u64 1)], .sym 3)],
  [(178, [.lit (.bool false), .sym 3, .sym 1], .tup [.sym 4, .lit (.bool b2)])]⟩
theorem RF_Near_f3_r1 : @comes (RF_Near_f3_k true true) Tryz.prog glT 3000 RF_Near_f3_f RF_Near_f3_a = some (.sym 4) := by kernel_rfl
theorem RF_Near_f3_r2 : @comes (RF_Near_f3_k true false) Tryz.prog glT 3000 RF_Near_f3_f RF_Near_f3_a = some (.lit (.float .f64 9218868437227405312)) := by kernel_rfl
theorem RF_Near_f3_r3 : @comes (RF_Near_f3_k false true) Tryz.prog glT 3000 RF_Near_f3_f RF_Near_f3_a = some (.sym 4) := by kernel_rfl
theorem RF_Near_f3_r4 : @comes (RF_Near_f3_k false false) Tryz.prog glT 3000 RF_Near_f3_f RF_Near_f3_a = some (.lit (.float .f64 9218868437227405312)) := by kernel_rfl
set_option maxRecDepth 100000 in
set_option maxHeartbeats 4000000 in
theorem RF_Near_f3 (m : Nat) (q : Int) (w : World) (hG : Globs glT w) (hm : m < 9007199254740992) (hq1 : -1074 ≤ q) (hq2 : q ≤ 971) (hmn : 4503599627370496 ≤ m ∨ q = -1074) : Calls Tryz.prog 140 #[.bool false, .int .u64 (((m : Nat) : Int)), .int .i64 q, .int .u8 3, .func (.func 90) #[] #[]] w fun e w' => e = .returned (.float .f64 (Bt.wf false (pk (m + 1) q))) ∧ Below w.heap.size w w' := by
  obtain ⟨b1, i1⟩ := bex (((m % 2 : Nat) : Int) = 1)
  obtain ⟨b2, i2⟩ := bex (okP (m + 1) q = true)
  letI : Env := mkEnv glT [.int .u64 (((m : Nat) : Int)), .int .i64 q, .int .u64 (((m % 2 : Nat) : Int)), .int .u64 (((m + 1 : Nat) : Int)), .float .f64 (mkW false (m + 1) q)] rfl
  have hops : OpsT Tryz.prog (@Know.ops (RF_Near_f3_k b1 b2)) := ⟨opt_odd rfl rfl rfl rfl (by omega),
    opt_eql_i rfl rfl i1,
    opt_add64 (y := 1) rfl rfl rfl rfl rfl (by omega),
    trivial⟩
  have hcalls : CallsT Tryz.prog (@Know.calls (RF_Near_f3_k b1 b2)) := ⟨callt rfl rfl fun w hG => bMake_i false (m + 1) q w (by omega) hq1 hq2 (hmn.imp (fun h => Nat.le_succ_of_le h) id) i2 hG,
    trivial⟩
  have fin : ∀ v, @comes (RF_Near_f3_k b1 b2) Tryz.prog glT 3000 RF_Near_f3_f RF_Near_f3_a = some v → ground v = true → Ending.returned (gval v) = .returned (.float .f64 (Bt.wf false (pk (m + 1) q))) → Calls Tryz.prog 140 #[.bool false, .int .u64 (((m : Nat) : Int)), .int .i64 q, .int .u8 3, .func (.func 90) #[] #[]] w fun e w' => e = .returned (.float .f64 (Bt.wf false (pk (m + 1) q))) ∧ Below w.heap.size w w' := fun v h1 h2 h3 => (@sym_ok _ (RF_Near_f3_k b1 b2) _ (@KnowOk.of _ (RF_Near_f3_k b1 b2) _ hops hcalls) (by kernel_rfl) _ _ _ _ h1 rfl h2 _ hG).mono fun e w' h => ⟨h.1.trans h3, h.2⟩
  clear hops hcalls
  cases b1 with
  | true =>
    have h1 : ((m % 2 : Nat) : Int) = 1 := i1.1 rfl
    cases b2 with
    | true =>
      have h2 : okP (m + 1) q = true := i2.1 rfl
      exact fin _ (RF_Near_f3_r1) rfl (show Ending.returned (.float .f64 (mkW false (m + 1) q)) = .returned (.float .f64 (Bt.wf false (pk (m + 1) q))) from by rw [mkW_ok h2])
    | false =>
      have h2 : ¬ (okP (m + 1) q = true) := fun c => Bool.false_ne_true (i2.2 c)
      exact fin _ (RF_Near_f3_r2) rfl (show Ending.returned (.float .f64 9218868437227405312) = .returned (.float .f64 (Bt.wf false (pk (m + 1) q))) from by rw [inf_f h2])
  | false =>
    have h1 : ¬ (((m % 2 : Nat) : Int) = 1) := fun c => Bool.false_ne_true (i1.2 c)
    cases b2 with
    | true =>
      have h2 : okP (m + 1) q = true := i2.1 rfl
      exact fin _ (RF_Near_f3_r3) rfl (show Ending.returned (.float .f64 (mkW false (m + 1) q)) = .returned (.float .f64 (Bt.wf false (pk (m + 1) q))) from by rw [mkW_ok h2])
    | false =>
      have h2 : ¬ (okP (m + 1) q = true) := fun c => Bool.false_ne_true (i2.2 c)
      exact fin _ (RF_Near_f3_r4) rfl (show Ending.returned (.float .f64 9218868437227405312) = .returned (.float .f64 (Bt.wf false (pk (m + 1) q))) from by rw [inf_f h2])
@[reducible] def RF_Near_t0_f : FuncId := 140
@[reducible] def RF_Near_t0_a : List AV := [.lit (.bool true), .sym 0, .sym 1, .lit (.int .u8 0), .lit (.func (.func 90) #[] #[])]
@[reducible] noncomputable def RF_Near_t0_k : Know := ⟨[],
  [(178, [.lit (.bool true), .sym 0, .sym 1], .tup [.sym 2, .lit (.bool true)])]⟩
theorem RF_Near_t0_r1 : @comes RF_Near_t0_k Tryz.prog glT 3000 RF_Near_t0_f RF_Near_t0_a = some (.sym 2) := by kernel_rfl
set_option maxRecDepth 100000 in
set_option maxHeartbeats 4000000 in
theorem RF_Near_t0 (m : Nat) (q : Int) (w : World) (hG : Globs glT w) (hm : m < 9007199254740992) (hq1 : -1074 ≤ q) (hq2 : q ≤ 971) (hmn : 4503599627370496 ≤ m ∨ q = -1074) : Calls Tryz.prog 140 #[.bool true, .int .u64 (((m : Nat) : Int)), .int .i64 q, .int .u8 0, .func (.func 90) #[] #[]] w fun e w' => e = .returned (.float .f64 (Bt.wf true (pk (m) q))) ∧ Below w.heap.size w w' := by
  have h1 : okP m q = true := okP_lt hm
  have i1 : true = true ↔ (okP m q = true) := ⟨fun _ => h1, fun _ => rfl⟩
  letI : Env := mkEnv glT [.int .u64 (((m : Nat) : Int)), .int .i64 q, .float .f64 (mkW true m q)] rfl
  have hops : OpsT Tryz.prog (@Know.ops RF_Near_t0_k) := trivial
  have hcalls : CallsT Tryz.prog (@Know.calls RF_Near_t0_k) := ⟨callt rfl rfl fun w hG => bMake_i true m q w (by omega) hq1 hq2 hmn i1 hG,
    trivial⟩
  have fin : ∀ v, @comes RF_Near_t0_k Tryz.prog glT 3000 RF_Near_t0_f RF_Near_t0_a = some v → ground v = true → Ending.returned (gval v) = .returned (.float .f64 (Bt.wf true (pk (m) q))) → Calls Tryz.prog 140 #[.bool true, .int .u64 (((m : Nat) : Int)), .int .i64 q, .int .u8 0, .func (.func 90) #[] #[]] w fun e w' => e = .returned (.float .f64 (Bt.wf true (pk (m) q))) ∧ Below w.heap.size w w' := fun v h1 h2 h3 => (@sym_ok _ RF_Near_t0_k _ (@KnowOk.of _ RF_Near_t0_k _ hops hcalls) (by kernel_rfl) _ _ _ _ h1 rfl h2 _ hG).mono fun e w' h => ⟨h.1.trans h3, h.2⟩
  clear hops hcalls
  exact fin _ (RF_Near_t0_r1) rfl (show Ending.returned (.float .f64 (mkW true m q)) = .returned (.float .f64 (Bt.wf true (pk (m) q))) from by rw [mkW_ok h1])
@[reducible] def RF_Near_t1_f : FuncId := 140
@[reducible] def RF_Near_t1_a : List AV := [.lit (.bool true), .sym 0, .sym 1, .lit (.int .u8 1), .lit (.func (.func 90) #[] #[])]
@[reducible] noncomputable def RF_Near_t1_k (b2 : Bool) : Know := ⟨[([0, 5, 66], [.sym 0, .lit (.int .u64 1)], .sym 3),
  ([0, 11, 66], [.sym 3, .lit (.int .u64 1)], .lit (.bool b2))],
  [(178, [.lit (.bool true), .sym 0, .sym 1], .tup [.sym 2, .lit (.bool true)])]⟩
theorem RF_Near_t1_r1 : @comes (RF_Near_t1_k true) Tryz.prog glT 3000 RF_Near_t1_f RF_Near_t1_a = some (.sym 2) := by kernel_rfl
theorem RF_Near_t1_r2 : @comes (RF_Near_t1_k false) Tryz.prog glT 3000 RF_Near_t1_f RF_Near_t1_a = some (.sym 2) := by kernel_rfl
set_option maxRecDepth 100000 in
set_option maxHeartbeats 4000000 in
theorem RF_Near_t1 (m : Nat) (q : Int) (w : World) (hG : Globs glT w) (hm : m < 9007199254740992) (hq1 : -1074 ≤ q) (hq2 : q ≤ 971) (hmn : 4503599627370496 ≤ m ∨ q = -1074) : Calls Tryz.prog 140 #[.bool true, .int .u64 (((m : Nat) : Int)), .int .i64 q, .int .u8 1, .func (.func 90) #[] #[]] w fun e w' => e = .returned (.float .f64 (Bt.wf true (pk (m) q))) ∧ Below w.heap.size w w' := by
  have h1 : okP m q = true := okP_lt hm
  have i1 : true = true ↔ (okP m q = true) := ⟨fun _ => h1, fun _ => rfl⟩
  obtain ⟨b2, i2⟩ := bex (((m % 2 : Nat) : Int) = 1)
  letI : Env := mkEnv glT [.int .u64 (((m : Nat) : Int)), .int .i64 q, .float .f64 (mkW true m q), .int .u64 (((m % 2 : Nat) : Int))] rfl
  have hops : OpsT Tryz.prog (@Know.ops (RF_Near_t1_k b2)) := ⟨opt_odd rfl rfl rfl rfl (by omega),
    opt_eql_i rfl rfl i2,
    trivial⟩
  have hcalls : CallsT Tryz.prog (@Know.calls (RF_Near_t1_k b2)) := ⟨callt rfl rfl fun w hG => bMake_i true m q w (by omega) hq1 hq2 hmn i1 hG,
    trivial⟩
  have fin : ∀ v, @comes (RF_Near_t1_k b2) Tryz.prog glT 3000 RF_Near_t1_f RF_Near_t1_a = some v → ground v = true → Ending.returned (gval v) = .returned (.float .f64 (Bt.wf true (pk (m) q))) → Calls Tryz.prog 140 #[.bool true, .int .u64 (((m : Nat) : Int)), .int .i64 q, .int .u8 1, .func (.func 90) #[] #[]] w fun e w' => e = .returned (.float .f64 (Bt.wf true (pk (m) q))) ∧ Below w.heap.size w w' := fun v h1 h2 h3 => (@sym_ok _ (RF_Near_t1_k b2) _ (@KnowOk.of _ (RF_Near_t1_k b2) _ hops hcalls) (by kernel_rfl) _ _ _ _ h1 rfl h2 _ hG).mono fun e w' h => ⟨h.1.trans h3, h.2⟩
  clear hops hcalls
  cases b2 with
  | true =>
    have h2 : ((m % 2 : Nat) : Int) = 1 := i2.1 rfl
    exact fin _ (RF_Near_t1_r1) rfl (show Ending.returned (.float .f64 (mkW true m q)) = .returned (.float .f64 (Bt.wf true (pk (m) q))) from by rw [mkW_ok h1])
  | false =>
    have h2 : ¬ (((m % 2 : Nat) : Int) = 1) := fun c => Bool.false_ne_true (i2.2 c)
    exact fin _ (RF_Near_t1_r2) rfl (show Ending.returned (.float .f64 (mkW true m q)) = .returned (.float .f64 (Bt.wf true (pk (m) q))) from by rw [mkW_ok h1])
@[reducible] def RF_Near_t2o_f : FuncId := 140
@[reducible] def RF_Near_t2o_a : List AV := [.lit (.bool true), .sym 0, .sym 1, .lit (.int .u8 2), .lit (.func (.func 90) #[] #[])]
@[reducible] noncomputable def RF_Near_t2o_k (b1 b2 b3 : Bool) : Know := ⟨[([0, 5, 66], [.sym 0, .lit (.int .u64 1)], .sym 2),
  ([0, 11, 66], [.sym 2, .lit (.int .u64 1)], .lit (.bool b1)),
  ([0, 0, 66], [.sym 0, .lit (.int .u64 1)], .sym 3)],
  [(178, [.lit (.bool true), .sym 3, .sym 1], .tup [.sym 4, .lit (.bool b2)]),
  (178, [.lit (.bool true), .sym 0, .sym 1], .tup [.sym 5, .lit (.bool b3)])]⟩
theorem RF_Near_t2o_r1 (b3 : Bool) : @comes (RF_Near_t2o_k true true b3) Tryz.prog glT 3000 RF_Near_t2o_f RF_Near_t2o_a = some (.sym 4) := by kernel_rfl
theorem RF_Near_t2o_r2 (b3 : Bool) : @comes (RF_Near_t2o_k true false b3) Tryz.prog glT 3000 RF_Near_t2o_f RF_Near_t2o_a = some (.lit (.float .f64 18442240474082181120)) := by kernel_rfl
set_option maxRecDepth 100000 in
set_option maxHeartbeats 4000000 in
theorem RF_Near_t2o (m : Nat) (q : Int) (w : World) (hG : Globs glT w) (hm : m < 9007199254740992) (hq1 : -1074 ≤ q) (hq2 : q ≤ 971) (hmn : 4503599627370496 ≤ m ∨ q = -1074) (ho : m % 2 = 1) : Calls Tryz.prog 140 #[.bool true, .int .u64 (((m : Nat) : Int)), .int .i64 q, .int .u8 2, .func (.func 90) #[] #[]] w fun e w' => e = .returned (.float .f64 (Bt.wf true (pk (m + 1) q))) ∧ Below w.heap.size w w' := by
  obtain ⟨b1, i1⟩ := bex (((m % 2 : Nat) : Int) = 1)
  obtain ⟨b2, i2⟩ := bex (okP (m + 1) q = true)
  obtain ⟨b3, i3⟩ := bex (okP m q = true)
  letI : Env := mkEnv glT [.int .u64 (((m : Nat) : Int)), .int .i64 q, .int .u64 (((m % 2 : Nat) : Int)), .int .u64 (((m + 1 : Nat) : Int)), .float .f64 (mkW true (m + 1) q), .float .f64 (mkW true m q)] rfl
  have hops : OpsT Tryz.prog (@Know.ops (RF_Near_t2o_k b1 b2 b3)) := ⟨opt_odd rfl rfl rfl rfl (by omega),
    opt_eql_i rfl rfl i1,
    opt_add64 (y := 1) rfl rfl rfl rfl rfl (by omega),
    trivial⟩
  have hcalls : CallsT Tryz.prog (@Know.calls (RF_Near_t2o_k b1 b2 b3)) := ⟨callt rfl rfl fun w hG => bMake_i true (m + 1) q w (by omega) hq1 hq2 (hmn.imp (fun h => Nat.le_succ_of_le h) id) i2 hG,
    callt rfl rfl fun w hG => bMake_i true m q w (by omega) hq1 hq2 hmn i3 hG,
    trivial⟩
  have fin : ∀ v, @comes (RF_Near_t2o_k b1 b2 b3) Tryz.prog glT 3000 RF_Near_t2o_f RF_Near_t2o_a = some v → ground v = true → Ending.returned (gval v) = .returned (.float .f64 (Bt.wf true (pk (m + 1) q))) → Calls Tryz.prog 140 #[.bool true, .int .u64 (((m : Nat) : Int)), .int .i64 q, .int .u8 2, .func (.func 90) #[] #[]] w fun e w' => e = .returned (.float .f64 (Bt.wf true (pk (m + 1) q))) ∧ Below w.heap.size w w' := fun v h1 h2 h3 => (@sym_ok _ (RF_Near_t2o_k b1 b2 b3) _ (@KnowOk.of _ (RF_Near_t2o_k b1 b2 b3) _ hops hcalls) (by kernel_rfl) _ _ _ _ h1 rfl h2 _ hG).mono fun e w' h => ⟨h.1.trans h3, h.2⟩
  clear hops hcalls
  cases b1 with
  | true =>
    have h1 : ((m % 2 : Nat) : Int) = 1 := i1.1 rfl
    cases b2 with
    | true =>
      have h2 : okP (m + 1) q = true := i2.1 rfl
      exact fin _ (RF_Near_t2o_r1 b3) rfl (show Ending.returned (.float .f64 (mkW true (m + 1) q)) = .returned (.float .f64 (Bt.wf true (pk (m + 1) q))) from by rw [mkW_ok h2])
    | false =>
      have h2 : ¬ (okP (m + 1) q = true) := fun c => Bool.false_ne_true (i2.2 c)
      exact fin _ (RF_Near_t2o_r2 b3) rfl (show Ending.returned (.float .f64 18442240474082181120) = .returned (.float .f64 (Bt.wf true (pk (m + 1) q))) from by rw [inf_t h2])
  | false =>
    exact absurd (i1.2 ((by omega))) Bool.false_ne_true
@[reducible] def RF_Near_t2e_f : FuncId := 140
@[reducible] def RF_Near_t2e_a : List AV := [.lit (.bool true), .sym 0, .sym 1, .lit (.int .u8 2), .lit (.func (.func 90) #[] #[])]
@[reducible] noncomputable def RF_Near_t2e_k (b1 b2 : Bool) : Know := ⟨[([0, 5, 66], [.sym 0, .lit (.int .u64 1)], .sym 2),
  ([0, 11, 66], [.sym 2, .lit (.int .u64 1)], .lit (.bool b1)),
  ([0, 0, 66], [.sym 0, .lit (.int .u64 1)], .sym 3)],
  [(178, [.lit (.bool true), .sym 3, .sym 1], .tup [.sym 4, .lit (.bool b2)]),
  (178, [.lit (.bool true), .sym 0, .sym 1], .tup [.sym 5, .lit (.bool true)])]⟩
theorem RF_Near_t2e_r1 (b2 : Bool) : @comes (RF_Near_t2e_k false b2) Tryz.prog glT 3000 RF_Near_t2e_f RF_Near_t2e_a = some (.sym 5) := by kernel_rfl
set_option maxRecDepth 100000 in
set_option maxHeartbeats 4000000 in
theorem RF_Near_t2e (m : Nat) (q : Int) (w : World) (hG : Globs glT w) (hm : m < 9007199254740992) (hq1 : -1074 ≤ q) (hq2 : q ≤ 971) (hmn : 4503599627370496 ≤ m ∨ q = -1074) (ho : m % 2 = 0) : Calls Tryz.prog 140 #[.bool true, .int .u64 (((m : Nat) : Int)), .int .i64 q, .int .u8 2, .func (.func 90) #[] #[]] w fun e w' => e = .returned (.float .f64 (Bt.wf true (pk (m) q))) ∧ Below w.heap.size w w' := by
  obtain ⟨b1, i1⟩ := bex (((m % 2 : Nat) : Int) = 1)
  obtain ⟨b2, i2⟩ := bex (okP (m + 1) q = true)
  have h3 : okP m q = true := okP_lt hm
  have i3 : true = true ↔ (okP m q = true) := ⟨fun _ => h3, fun _ => rfl⟩
  letI : Env := mkEnv glT [.int .u64 (((m : Nat) : Int)), .int .i64 q, .int .u64 (((m % 2 : Nat) : Int)), .int .u64 (((m + 1 : Nat) : Int)), .float .f64 (mkW true (m + 1) q), .float .f64 (mkW true m q)] rfl
  have hops : OpsT Tryz.prog (@Know.ops (RF_Near_t2e_k b1 b2)) := ⟨opt_odd rfl rfl rfl rfl (by omega),
    opt_eql_i rfl rfl i1,
    opt_add64 (y := 1) rfl rfl rfl rfl rfl (by omega),
    trivial⟩
  have hcalls : CallsT Tryz.prog (@Know.calls (RF_Near_t2e_k b1 b2)) := ⟨callt rfl rfl fun w hG => bMake_i true (m + 1) q w (by omega) hq1 hq2 (hmn.imp (fun h => Nat.le_succ_of_le h) id) i2 hG,
    callt rfl rfl fun w hG => bMake_i true m q w (by omega) hq1 hq2 hmn i3 hG,
    trivial⟩
  have fin : ∀ v, @comes (RF_Near_t2e_k b1 b2) Tryz.prog glT 3000 RF_Near_t2e_f RF_Near_t2e_a = some v → ground v = true → Ending.returned (gval v) = .returned (.float .f64 (Bt.wf true (pk (m) q))) → Calls Tryz.prog 140 #[.bool true, .int .u64 (((m : Nat) : Int)), .int .i64 q, .int .u8 2, .func (.func 90) #[] #[]] w fun e w' => e = .returned (.float .f64 (Bt.wf true (pk (m) q))) ∧ Below w.heap.size w w' := fun v h1 h2 h3 => (@sym_ok _ (RF_Near_t2e_k b1 b2) _ (@KnowOk.of _ (RF_Near_t2e_k b1 b2) _ hops hcalls) (by kernel_rfl) _ _ _ _ h1 rfl h2 _ hG).mono fun e w' h => ⟨h.1.trans h3, h.2⟩
  clear hops hcalls
  cases b1 with
  | true =>
    exact absurd (i1.1 rfl) ((by omega))
  | false =>
    have h1 : ¬ (((m % 2 : Nat) : Int) = 1) := fun c => Bool.false_ne_true (i1.2 c)
    exact fin _ (RF_Near_t2e_r1 b2) rfl (show Ending.returned (.float .f64 (mkW true m q)) = .returned (.float .f64 (Bt.wf true (pk (m) q))) from by rw [mkW_ok h3])
@[reducible] def RF_Near_t3_f : FuncId := 140
@[reducible] def RF_Near_t3_a : List AV := [.lit (.bool true), .sym 0, .sym 1, .lit (.int .u8 3), .lit (.func (.func 90) #[] #[])]
@[reducible] noncomputable def RF_Near_t3_k (b1 b2 : Bool) : Know := ⟨[([0, 5, 66], [.sym 0, .lit (.int .u64 1)], .sym 2),
  ([0, 11, 66], [.sym 2, .lit (.int .u64 1)], .lit (.bool b1)),
  ([0, 0, 66], [.sym 0, .lit (.int .u64 1)], .sym 3)],
  [(178, [.lit (.bool true), .sym 3, .sym 1], .tup [.sym 4, .lit (.bool b2)])]⟩
theorem RF_Near_t3_r1 : @comes (RF_Near_t3_k true true) Tryz.prog glT 3000 RF_Near_t3_f RF_Near_t3_a = some (.sym 4) := by kernel_rfl
theorem RF_Near_t3_r2 : @comes (RF_Near_t3_k true false) Tryz.prog glT 3000 RF_Near_t3_f RF_Near_t3_a = some (.lit (.float .f64 18442240474082181120)) := by kernel_rfl
theorem RF_Near_t3_r3 : @comes (RF_Near_t3_k false true) Tryz.prog glT 3000 RF_Near_t3_f RF_Near_t3_a = some (.sym 4) := by kernel_rfl
theorem RF_Near_t3_r4 : @comes (RF_Near_t3_k false false) Tryz.prog glT 3000 RF_Near_t3_f RF_Near_t3_a = some (.lit (.float .f64 18442240474082181120)) := by kernel_rfl
set_option maxRecDepth 100000 in
set_option maxHeartbeats 4000000 in
theorem RF_Near_t3 (m : Nat) (q : Int) (w : World) (hG : Globs glT w) (hm : m < 9007199254740992) (hq1 : -1074 ≤ q) (hq2 : q ≤ 971) (hmn : 4503599627370496 ≤ m ∨ q = -1074) : Calls Tryz.prog 140 #[.bool true, .int .u64 (((m : Nat) : Int)), .int .i64 q, .int .u8 3, .func (.func 90) #[] #[]] w fun e w' => e = .returned (.float .f64 (Bt.wf true (pk (m + 1) q))) ∧ Below w.heap.size w w' := by
  obtain ⟨b1, i1⟩ := bex (((m % 2 : Nat) : Int) = 1)
  obtain ⟨b2, i2⟩ := bex (okP (m + 1) q = true)
  letI : Env := mkEnv glT [.int .u64 (((m : Nat) : Int)), .int .i64 q, .int .u64 (((m % 2 : Nat) : Int)), .int .u64 (((m + 1 : Nat) : Int)), .float .f64 (mkW true (m + 1) q)] rfl
  have hops : OpsT Tryz.prog (@Know.ops (RF_Near_t3_k b1 b2)) := ⟨opt_odd rfl rfl rfl rfl (by omega),
    opt_eql_i rfl rfl i1,
    opt_add64 (y := 1) rfl rfl rfl rfl rfl (by omega),
    trivial⟩
  have hcalls : CallsT Tryz.prog (@Know.calls (RF_Near_t3_k b1 b2)) := ⟨callt rfl rfl fun w hG => bMake_i true (m + 1) q w (by omega) hq1 hq2 (hmn.imp (fun h => Nat.le_succ_of_le h) id) i2 hG,
    trivial⟩
  have fin : ∀ v, @comes (RF_Near_t3_k b1 b2) Tryz.prog glT 3000 RF_Near_t3_f RF_Near_t3_a = some v → ground v = true → Ending.returned (gval v) = .returned (.float .f64 (Bt.wf true (pk (m + 1) q))) → Calls Tryz.prog 140 #[.bool true, .int .u64 (((m : Nat) : Int)), .int .i64 q, .int .u8 3, .func (.func 90) #[] #[]] w fun e w' => e = .returned (.float .f64 (Bt.wf true (pk (m + 1) q))) ∧ Below w.heap.size w w' := fun v h1 h2 h3 => (@sym_ok _ (RF_Near_t3_k b1 b2) _ (@KnowOk.of _ (RF_Near_t3_k b1 b2) _ hops hcalls) (by kernel_rfl) _ _ _ _ h1 rfl h2 _ hG).mono fun e w' h => ⟨h.1.trans h3, h.2⟩
  clear hops hcalls
  cases b1 with
  | true =>
    have h1 : ((m % 2 : Nat) : Int) = 1 := i1.1 rfl
    cases b2 with
    | true =>
      have h2 : okP (m + 1) q = true := i2.1 rfl
      exact fin _ (RF_Near_t3_r1) rfl (show Ending.returned (.float .f64 (mkW true (m + 1) q)) = .returned (.float .f64 (Bt.wf true (pk (m + 1) q))) from by rw [mkW_ok h2])
    | false =>
      have h2 : ¬ (okP (m + 1) q = true) := fun c => Bool.false_ne_true (i2.2 c)
      exact fin _ (RF_Near_t3_r2) rfl (show Ending.returned (.float .f64 18442240474082181120) = .returned (.float .f64 (Bt.wf true (pk (m + 1) q))) from by rw [inf_t h2])
  | false =>
    have h1 : ¬ (((m % 2 : Nat) : Int) = 1) := fun c => Bool.false_ne_true (i1.2 c)
    cases b2 with
    | true =>
      have h2 : okP (m + 1) q = true := i2.1 rfl
      exact fin _ (RF_Near_t3_r3) rfl (show Ending.returned (.float .f64 (mkW true (m + 1) q)) = .returned (.float .f64 (Bt.wf true (pk (m + 1) q))) from by rw [mkW_ok h2])
    | false =>
      have h2 : ¬ (okP (m + 1) q = true) := fun c => Bool.false_ne_true (i2.2 c)
      exact fin _ (RF_Near_t3_r4) rfl (show Ending.returned (.float .f64 18442240474082181120) = .returned (.float .f64 (Bt.wf true (pk (m + 1) q))) from by rw [inf_t h2])
end Go.Proofs.YtajcapliokblfaaGreatDoor
