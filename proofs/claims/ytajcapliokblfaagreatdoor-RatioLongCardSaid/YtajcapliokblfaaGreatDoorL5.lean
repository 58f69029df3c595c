/- Texts put together: N39 N44 N46 N48 P21 P22 P66 D3 D8 DM D12 D15 Fft B1t B2t B3t B4t B5t D61 D23 D7 D22 D24 D25 D27 D35 D37 D40 D42 D43 D62 SyD P34 P36 B7t B8t B9t B10t P43 P44 P26 P27 Shelf2 P47 N29 N30 N79 P48 P49 P50 P51. -/
import Derived.Test.YtajcapliokblfaaGreatDoorL2
import Derived.Test.YtajcapliokblfaaGreatDoorL4
import Derived.Test.YtajcapliokblfaaGreatDoorL3
import Derived.Test.YtajcapliokblfaaGreatDoorL1
import Derived.BigQuiet
import Derived.Deep.RegionLaw
import Ieee.Arith
import Derived.Test.YtajcapliokblfaaGreatDoorProg
import Derived.WalkKit
import Derived.WalkLawsBesides
import Derived.WalkSpells
import Derived.Outline
import Derived.Lib.Hide
import Derived.Deep.Light
import Derived.Laws.BitsAllLaws
import Derived.Laws.FloatArith
import Derived.Deep.QuietTactic
import Derived.Lib.TrailingZeros
import Derived.Shelf.Strconv.Itoa0
import Derived.Laws.ShiftsVarLaws
import Derived.WalkSmall
import Derived.Deep.RegionHeld3
import Derived.Shelf.Small.Bits
import Derived.Shelf.Small.Wraps
import Derived.Shelf.Strings.Search1
import Derived.Shelf.Strings.Search2
import Derived.Shelf.Strings.Cut
import Derived.Shelf.LaysM
import Derived.Shelf.Strings.Shaped
import Derived.Shelf.Strings.Prefix
import Derived.Shelf.Bits.Mul64
import Derived.ScopeJumps
set_option linter.unusedSimpArgs false
set_option linter.unusedVariables false
namespace Go.Proofs.YtajcapliokblfaaGreatDoor
open Go Go.RowKit Nt
def madeF (n Z i j : Nat) : Nat := if n - i ≤ j then dgt 256 Z (n - 1 - j) else 0
theorem madeF_step {n Z i x j : Nat} (h : n = i + 1 + x) (hj : j < n) : (if j = x then dgt 256 Z i else madeF n Z i j) = madeF n Z (i + 1) j := by
  unfold madeF
  by_cases h1 : j = x
  · rw [if_pos h1, if_pos (by omega), show n - 1 - j = i by omega]
  · rw [if_neg h1]
    by_cases h2 : n - i ≤ j
    · rw [if_pos h2, if_pos (by omega)]
    · rw [if_neg h2, if_neg (by omega)]
theorem digit_of {l : List Nat} (hl : ∀ x ∈ l, x < 256) {j : Nat} (h : j < l.length) : dgt 256 (of 256 l) j = l[j] := dgt_of (by omega) l hl j h
set_option maxRecDepth 100000 in
set_option maxHeartbeats 1000000 in
theorem rMade_c (B : Nat) (v : Value) (l : List Nat) (w : World) (hl : ∀ x ∈ l, x < 256) (hn : l.length ≤ 1000000000) (hown : Own w B 3 .i64 v l) :
    Calls Tryz.prog 123 #[v] w fun e w' => e = .returned (.string (natS (of 256 l))) ∧ Below w.heap.size w w' := by
  obtain ⟨i0, hi0, hz0, hz1, hz2⟩ := info_parts (P := Tryz.prog) (e := 5) (z := .int .u8 0) (size := 1) (bytes := 1) (by kernel_rfl)
  obtain ⟨A, c, rfl, hc⟩ := hown.len
  obtain ⟨Z, hZ⟩ : ∃ Z, Z = of 256 l := ⟨_, rfl⟩
  obtain ⟨L, hL⟩ : ∃ L, L = l.length := ⟨_, rfl⟩
  have hdl := of_lt (b := 256) (by omega) l hl
  have hcell : ∀ j, j < L → ∃ ga, A = some ⟨ga, 0, none⟩ ∧ ga < w.heap.size ∧ w.cell? ⟨ga, j, none⟩ = some (.int .i64 (dgt 256 Z j : Nat)) := fun j hj => by
    obtain ⟨g, cap, e, _, hg, hcl, _⟩ := hown.cell (by rw [← hL]; exact hj)
    cases e
    exact ⟨g, rfl, hg, by rw [hcl, hZ, digit_of hl]⟩
  rw [← hZ] at hdl ⊢
  rw [← hL] at hn hc hdl ⊢
  have hnd : nd 256 Z ≤ L := nd_le (by omega) hdl
  have HC := Lib.hid hcell
  clear hcell hZ hL hown hl hdl hc
  go_enter Tryz.func123, Tryz.ntmps123
  go_wp2
  go_loopw [3] (fun i wr => ∃ k : Nat, k ≤ L ∧ i = .int .i64 k ∧ Hid (nd 256 Z ≤ k) ∧ w = wr) (fun i _ => (intOf i).toNat)
  case atStart => exact ⟨L, Nat.le_refl _, rfl, Lib.hid hnd, rfl⟩
  case round =>
    obtain ⟨k, hk, rfl, hle, rfl⟩ := hrel
    by_cases hstop : nd 256 Z = k
    · have HS := Lib.hid hstop
      clear hstop hle
      have hcond : k = 0 ∨ ∃ m ga, k = m + 1 ∧ A = some ⟨ga, 0, none⟩ ∧ w.cell? ⟨ga, k - 1, none⟩ = some (.int .i64 (dgt 256 Z m : Nat)) ∧ dgt 256 Z m ≠ 0 := by
        rcases Nat.eq_zero_or_pos k with h | h
        · exact Or.inl h
        · obtain ⟨m, rfl⟩ : ∃ m, k = m + 1 := ⟨k - 1, by omega⟩
          obtain ⟨ga, h1, _, h2⟩ := HC.out m (by omega)
          have h3 := dgt_top (b := 256) (n := Z) (by omega) (fun c => by have := HS.out; rw [c, nd_zero] at this; omega)
          rw [HS.out, Nat.add_sub_cancel] at h3
          exact Or.inr ⟨m, ga, rfl, h1, h2, h3⟩
      rcases hcond with h0 | ⟨m, ga, hm, rfl, hcl, hnz⟩
      case' inr =>
        have hz1' : ((dgt 256 Z m : Nat) : Int) ≠ 0 := by omega
        have hz2' : (((dgt 256 Z m : Nat) : Int) == 0) = false := by rw [beq_eq_false_iff_ne]; exact hz1'
        have hw : wrap64 ((k : Int) - 1) = (m : Int) := by rw [IntWalk.wrap64_in _ (by omega)]; omega
        have hk0 : (0 : Int) < (k : Int) := by omega
        have HM := Lib.hid hm
        clear hm
      case' inl =>
        have hk0 : ¬ (0 : Int) < (k : Int) := by omega
        have HM := Lib.hid h0
        clear h0
      all_goals
        go_wp2_with (at_make; go_loud (refine wpList_make_zero _ rfl _ _ _ rfl 5 i0 _ Tryz.underlying64 hi0 hz0 hz1 .i64 .i64 _ _ k rfl rfl rfl rfl (by rw [hz2]; omega) (by unfold maxLen; omega) ?_))
        rw [fcells_made]
        have HB0 := Lib.hid (Blk.new w 5 (fcells .u8 (fun _ => 0) k))
        have hbl : Below w.heap.size w (w.alloc (.cells (fcells .u8 (fun _ => 0) k) 5)) := (Below.refl _ _).alloc (Nat.le_refl _) _
        generalize w.alloc (.cells (fcells .u8 (fun _ => 0) k) 5) = w1 at *
        obtain ⟨g, hg⟩ : ∃ g, g = w.heap.size := ⟨_, rfl⟩
        rw [← hg] at HB0 hbl ⊢
        have HG := Lib.hid hg
        clear hg
        go_loopw [5] (fun i wr => ∃ q : Nat, q ≤ k ∧ i = .int .i64 q ∧ Hid (Blk wr g 5 (fcells .u8 (madeF k Z q) k)) ∧ Below g w wr) (fun i _ => k - (intOf i).toNat)
        case atStart => exact ⟨0, Nat.zero_le _, rfl, by rw [fcells_congr (f' := fun _ => 0) (fun j hj => by unfold madeF; rw [if_neg (by omega)])]; exact HB0, hbl⟩
        case round =>
          obtain ⟨q, hq, rfl, hblk, hb⟩ := hrel
          by_cases hlt : q < k
          · try exact absurd hlt (by have := HM.out; omega)
            all_goals
              obtain ⟨x, hx⟩ : ∃ x, k = q + 1 + x := ⟨k - q - 1, by omega⟩
              obtain ⟨gb, hA, hgb, hcb⟩ := HC.out q (by omega)
              have hcb2 := (hb.cell (p := ⟨gb, q, none⟩) (by have := HG.out; show gb < g; omega)).trans hcb
              cases hA
              have hfz := hblk.out.frozen x
              have hck := hblk.out.cell x
              rw [fcells_get _ _ _ _ (by omega)] at hck
              have hxI : (k : Int) - 1 - (q : Int) = (x : Int) := by omega
              have hd := dgt_lt (b := 256) (by omega) Z q
              have hwr : IntKind.u8.wrap ((dgt 256 Z q : Nat) : Int) = ((dgt 256 Z q : Nat) : Int) := by rw [wrap_u8, Nat.mod_eq_of_lt hd]
              have HX := Lib.hid hx
              clear hx hcb
              go_wp2
              have HB1 := Lib.hid (hblk.out.set_ x (.int .u8 ((dgt 256 Z q : Nat) : Int)))
              rw [fcells_set, fcells_congr (f' := madeF k Z (q + 1)) (fun j hj => madeF_step HX.out hj)] at HB1
              have hb1 := hb.setCell (p := ⟨g, x, none⟩) (Nat.le_refl _) (.int .u8 ((dgt 256 Z q : Nat) : Int))
              go_roundw
              case rel => exact ⟨q + 1, by omega, by go_num, HB1, hb1⟩
              case measure => simp [intOf]; omega
          · obtain rfl : q = k := by omega
            have hcv : (convert 64 9 (.slice (some ⟨g, 0, none⟩) q q)).run Tryz.prog wr = .ok (.string (natS Z)) wr := by
              have hN := HS.out
              have hl : ((dl 256 Z (nd 256 Z)).reverse.map UInt8.ofNat).length = q := by simp [dl_length, hN]
              have h := run_convert_bytes_back (P := Tryz.prog) wr 64 9 5 ⟨g, 0, none⟩ q ((dl 256 Z (nd 256 Z)).reverse.map UInt8.ofNat) Tryz.underlying64 Tryz.underlying5 Tryz.underlying9 (fun j hj => by
                have hj2 : j < q := by rw [← hl]; exact hj
                rw [add_plain0, hblk.out.cell, fcells_get _ _ _ _ hj2]
                have e := natS_get Z j (by rw [natS_size, hN]; exact hj2)
                rw [ba_get] at e
                simp only [natS_def] at e
                rw [List.getElem_toArray] at e
                rw [e]
                unfold madeF
                rw [if_pos (by omega), hN])
              rw [hl, ← natS_def] at h
              exact h
            go_wp2
            go_ret
            exact ⟨rfl, by rw [← HG.out]; exact hb⟩
    · obtain ⟨m, rfl⟩ : ∃ m, k = m + 1 := ⟨k - 1, by have := hle.out; omega⟩
      obtain ⟨ga, rfl, hga, hcl⟩ := HC.out m (by omega)
      rw [dgt_big (b := 256) (n := Z) (i := m) (by omega) (by have := hle.out; omega)] at hcl
      have H1 := Lib.hid (show nd 256 Z ≤ m by have := hle.out; omega)
      have hw : wrap64 ((m : Int) + 1 - 1) = (m : Int) := by rw [IntWalk.wrap64_in _ (by omega)]; omega
      clear hstop
      go_wp2
      go_roundw
      case rel => exact ⟨m, by omega, rfl, H1, trivial⟩
      case measure => simp [intOf]; try omega
end Go.Proofs.YtajcapliokblfaaGreatDoor
namespace Go.Proofs.YtajcapliokblfaaGreatDoor
open Go Go.RowKit Nt
def DigPost (l : List Nat) (w : World) (e : Ending) (w' : World) : Prop := ∃ v, e = .returned v ∧ Own w' w.heap.size 3 .i64 v l ∧ Below w.heap.size w w'
set_option maxRecDepth 100000 in
set_option maxHeartbeats 1000000 in
theorem rDigits_c (n : Nat) (w : World) (hn : nd 256 n ≤ 1000000000) :
    Calls Tryz.prog 121 #[.string (natS n)] w (DigPost (dl 256 n (nd 256 n)) w) := by
  obtain ⟨i0, hi0, hz0, hj1, hj2⟩ := info_parts (P := Tryz.prog) (e := 3) (z := .int .i64 0) (size := 1) (bytes := 8) (by kernel_rfl)
  have hsz := natS_size n
  obtain ⟨N, hN⟩ : ∃ N, N = nd 256 n := ⟨_, rfl⟩
  have hg := fun k (h : k < (natS n).size) => natS_get n k h
  rw [← hN] at hsz hn hg ⊢
  have HG := Lib.hid hg
  have HN := Lib.hid hN
  clear hN hg
  go_enter Tryz.func121, Tryz.ntmps121
  go_wp2
  go_loopw [3, 4] (fun v i wr => ∃ (k : Nat) (z : Int), k ≤ N ∧ i = .int .i64 z ∧ Hid (z = (N : Int) - 1 - (k : Int)) ∧ Hid (Own wr w.heap.size 3 .i64 v (dl 256 n k)) ∧ Below w.heap.size w wr) (fun _ i _ => (intOf i + 1).toNat)
  case atStart => exact ⟨0, _, Nat.zero_le _, rfl, Lib.hid (by first | rfl | omega | go_num), Lib.hid (Own.nil _ _ _ _), Below.refl _ _⟩
  case round =>
    obtain ⟨k, z, hk, rfl, hz, hown, hb⟩ := hrel
    by_cases h0 : k = N
    · subst h0
      obtain rfl : z = -1 := by have := hz.out; omega
      go_wp2
      go_ret
      exact ⟨_, rfl, hown.out, hb⟩
    · obtain ⟨m, hm⟩ : ∃ m, N = k + 1 + m := ⟨N - k - 1, by omega⟩
      obtain rfl : z = (m : Int) := by have := hz.out; omega
      have hms : m < (natS n).size := by omega
      have e := HG.out m hms
      rw [show N - 1 - m = k by omega] at e
      have hlt := (natS n)[m].toNat_lt
      have hw : wrap64 ((m : Int) - 1) = (m : Int) - 1 := IntWalk.wrap64_in _ (by omega)
      have hlen : Hid ((dl 256 n k).length + 1 ≤ 17592186044416) := Lib.hid (by rw [dl_length]; omega)
      have hm0 : (0 : Int) ≤ (m : Int) := by omega
      have HM := Lib.hid hm
      have HE := Lib.hid e
      have hwc : wrap64 (((natS n)[m].toNat : Nat) : Int) = (((natS n)[m].toNat : Nat) : Int) := IntWalk.wrap64_in _ (by omega)
      clear e hm h0
      go_wp2_with (at_builtin; go_loud (refine wpList_app1 wr rfl (.tmp 12) (.tmp 17) _ rfl w.heap.size 3 3 i0 .i64 8 Tryz.underlying139 hi0 hz0 hj1 hj2 (by omega) _ (dl 256 n k) (natS n)[m].toNat rfl rfl hown.out hlen.out hb.size ?_); intro v5 w5 hown5 hb5 hfr5 hnw5)
      rw [HE.out, ← dl_succ] at hown5
      have HO5 := Lib.hid hown5
      clear hown5 hfr5 hnw5
      go_roundw
      case rel => exact ⟨k + 1, _, by have := HM.out; omega, rfl, Lib.hid (by have := HM.out; omega), HO5, hb.trans hb5⟩
      case measure => simp [intOf]; try omega
set_option maxRecDepth 100000 in
theorem rAt_c (n L i B : Nat) (A : Option Addr) (c : Nat) (w : World) (hL : nd 256 n ≤ L) (hL2 : L ≤ 4000000000) (hi : i ≤ 4000000000) (h : Own w B 3 .i64 (.slice A L c) (dl 256 n L)) :
    Calls Tryz.prog 122 #[.slice A L c, .int .i64 (i : Nat)] w fun e w' => e = .returned (.int .i64 (dgt 256 n i : Nat)) ∧ w = w' := by
  by_cases hlt : i < L
  · obtain ⟨g, cap, e, _, hg, hc, hf⟩ := h.cell (j := i) (by rw [dl_length]; exact hlt)
    injection e with e1 e2 e3
    subst e1
    rw [dl_get] at hc
    generalize dgt 256 n i = d at *
    clear h e2 e3 hf
    go_enter Tryz.func122, Tryz.ntmps122
    go_wp2
    go_ret
    exact ⟨rfl, rfl⟩
  · rw [dgt_big (b := 256) (by omega) (show nd 256 n ≤ i by omega)]
    clear h hL
    go_enter Tryz.func122, Tryz.ntmps122
    go_wp2
    go_ret
    exact ⟨rfl, rfl⟩
set_option maxRecDepth 100000 in
theorem rEnded_c (n : Nat) (w : World) (hn : nd 256 n ≤ 1000000000) :
    Calls Tryz.prog 133 #[.string (natS n)] w fun e w' => e = .returned (.tuple #[.string (resS n), .int .i64 (resE n)]) ∧ w = w' := by
  have hsz := natS_size n
  by_cases h : fits n
  · have HE := Lib.hid (resE_ok h)
    have HS := Lib.hid (resS_ok h)
    have h2 : ¬ 16384 < nd 256 n := by unfold fits at h; omega
    have h3 : ¬ (16384 : Int) < (nd 256 n : Int) := by omega
    clear h
    go_enter Tryz.func133, Tryz.ntmps133
    go_wp2
    go_ret2
    exact ⟨by rw [HE.out, HS.out]; rfl, rfl⟩
  · have HE := Lib.hid (resE_no h)
    have HS := Lib.hid (resS_no h)
    have h2 : 16384 < nd 256 n := by unfold fits at h; omega
    have h3 : (16384 : Int) < (nd 256 n : Int) := by omega
    clear h
    go_enter Tryz.func133, Tryz.ntmps133
    go_wp2
    go_ret2
    exact ⟨by rw [HE.out, HS.out]; rfl, rfl⟩
end Go.Proofs.YtajcapliokblfaaGreatDoor
namespace Go.Proofs.YtajcapliokblfaaGreatDoor
open Go Go.RowKit Nt
def dcells (n L : Nat) : Array Value := fcells .i64 (dgt 256 n) L
theorem dcells_get (n L j : Nat) (h : j < L) : (dcells n L)[j]? = some (.int .i64 (dgt 256 n j : Nat)) := fcells_get _ _ _ _ h
theorem dcells_set (n L i v : Nat) (hv : v < 256) : (dcells n L).setIfInBounds i (.int .i64 (v : Nat)) = dcells (put 256 n i v) L := by
  unfold dcells
  rw [fcells_set]
  exact fcells_congr fun j _ => (dgt_put (by omega) n i v j hv).symm
theorem dcells_made (L : Nat) : madeCells #[.int .i64 0] L = dcells 0 L := by
  unfold dcells
  rw [fcells_made]
  exact fcells_congr fun j _ => by rw [dgt_def, Nat.zero_div]
theorem fcells_list (k : IntKind) (f : Nat → Nat) (L : Nat) : (fcells k f L).toList = (((List.range L).map f).map (fun (x : Nat) => Value.int k (x : Int))) := by
  unfold fcells; rw [List.map_map]; rfl
theorem Own.of_fcells {w : World} {B g : Nat} {T : TypeId} {k : IntKind} {f : Nat → Nat} {L : Nat} (h : Blk w g T (fcells k f L)) (hB : B ≤ g) (hL : L ≤ 1000000000) :
    Own w B T k (.slice (some ⟨g, 0, none⟩) L L) ((List.range L).map f) := by
  have hlen : ((List.range L).map f).length = L := by simp
  unfold Own
  rw [hlen]
  refine ⟨by simp, Or.inr ⟨g, L, fcells k f L, rfl, hB, h, Nat.le_refl _, by unfold maxLen; omega, by rw [fcells_size, Nat.mul_one], ?_⟩⟩
  rw [fcells_list, Nat.mul_one]
  exact List.take_of_length_le (by simp)
set_option maxRecDepth 100000 in
set_option maxHeartbeats 1000000 in
theorem rTimes_c (x y : Nat) (w : World) (hx : nd 256 x ≤ 100000000) (hy : nd 256 y ≤ 100000000) :
    Calls Tryz.prog 144 #[.string (natS x), .string (natS y)] w fun e w' => e = .returned (.string (natS (x * y))) ∧ Below w.heap.size w w' := by
  obtain ⟨i0, hi0, hz0, hj1, hj2⟩ := info_parts (P := Tryz.prog) (e := 3) (z := .int .i64 0) (size := 1) (bytes := 8) (by kernel_rfl)
  have KX := Lib.hid (fun w => rDigits_c x w (by omega))
  have KY := Lib.hid (fun w => rDigits_c y w (by omega))
  obtain ⟨X, hX⟩ : ∃ X, X = nd 256 x := ⟨_, rfl⟩
  obtain ⟨Y, hY⟩ : ∃ Y, Y = nd 256 y := ⟨_, rfl⟩
  obtain ⟨L, hL⟩ : ∃ L, L = X + Y + 1 := ⟨_, rfl⟩
  rw [← hX] at KX hx
  rw [← hY] at KY hy
  have HX := Lib.hid hX
  have HY := Lib.hid hY
  have HL := Lib.hid hL
  have hLI : ((X : Int) + (Y : Int) + 1) = (L : Int) := by omega
  have hL2 : L ≤ 300000000 := by omega
  clear hX hY hL
  go_enter Tryz.func144, Tryz.ntmps144
  go_wp2_with fail
  refine (KX.out _).mono ?_
  rintro e w1 ⟨v1, rfl, ho1, hb1⟩
  obtain ⟨A1, c1, rfl, hc1⟩ := ho1.len
  rw [dl_length] at ho1 hc1 ⊢
  have HO1 := Lib.hid ho1
  clear ho1 hc1
  go_wp2_with fail
  refine (KY.out _).mono ?_
  rintro e w2 ⟨v2, rfl, ho2, hb2⟩
  obtain ⟨A2, c2, rfl, hc2⟩ := ho2.len
  rw [dl_length] at ho2 hc2 ⊢
  have HO2 := Lib.hid ho2
  have HO3 := Lib.hid (HO1.out.whole hb2)
  have hb12 := below_chain hb1 hb2
  clear ho2 hc2 HO1 hb1
  go_wp2_with (at_make; go_loud (refine wpList_make_zero _ rfl _ _ _ rfl 3 i0 _ Tryz.underlying139 hi0 hz0 hj1 .i64 .i64 _ _ L rfl rfl (by omega) (by omega) (by rw [hj2]; omega) (by unfold maxLen; omega) ?_))
  rw [dcells_made]
  have HB0 := Lib.hid (Blk.new w2 3 (dcells 0 L))
  have hbl : Below w2.heap.size w2 (w2.alloc (.cells (dcells 0 L) 3)) := (Below.refl _ _).alloc (Nat.le_refl _) _
  generalize w2.alloc (.cells (dcells 0 L) 3) = w3 at *
  obtain ⟨g, hg⟩ : ∃ g, g = w2.heap.size := ⟨_, rfl⟩
  rw [← hg] at HB0 hbl ⊢
  have HG := Lib.hid hg
  clear hg
  go_loopw [8] (fun i wr => ∃ (k Z : Nat), k ≤ X ∧ i = .int .i64 k ∧ Hid (Z = x % 256 ^ k * y) ∧ Hid (Blk wr g 3 (dcells Z L)) ∧ Below g w2 wr) (fun i _ => X - (intOf i).toNat)
  case atStart => exact ⟨0, 0, by omega, rfl, Lib.hid (by rw [Nat.pow_zero, Nat.mod_one, Nat.zero_mul]), HB0, hbl⟩
  case round =>
    obtain ⟨i, Z, hi, rfl, hZ, hblk, hb⟩ := hrel
    by_cases hlt : i < X
    · have ha := dgt_lt (b := 256) (by omega) x i
      have HT := Lib.hid (tms_first x y i)
      rw [← hZ.out] at HT
      go_wp2_with fail
      go_loopw [9, 10] (fun m kk wr' => ∃ (k q Z' : Nat), k ≤ Y + 1 ∧ kk = .int .i64 k ∧ m = .int .i64 q ∧ q ≤ 255 ∧ Hid (tms x y i k Z' q) ∧ Hid (Blk wr' g 3 (dcells Z' L)) ∧ Below g w2 wr') (fun _ kk _ => Y + 1 - (intOf kk).toNat)
      case atStart => exact ⟨0, 0, Z, by omega, rfl, rfl, by omega, HT, hblk, hb⟩
      case round =>
        obtain ⟨k, q, Z', hk, rfl, rfl, hq, htm, hblk', hbw⟩ := hrel
        by_cases hstop : Y ≤ k ∧ q = 0
        · obtain ⟨h1, rfl⟩ := hstop
          have h1' : ¬ k < Y := by omega
          have HN := Lib.hid (tms_last htm.out (by have := HY.out; omega))
          go_wp2_with fail
          go_roundw
          case rel => exact ⟨i + 1, Z', by omega, by go_num, HN, hblk', hbw⟩
          case measure => simp [intOf]; omega
        · have hkY : k ≤ Y := by
            rcases Nat.lt_or_ge Y k with c | c
            · have := tms_more htm.out (by have := HY.out; omega) (fun c2 => hstop ⟨by omega, c2⟩)
              have := HY.out; omega
            · exact c
          obtain ⟨p, hp⟩ : ∃ p, p = i + k := ⟨_, rfl⟩
          have hpI : (i : Int) + (k : Int) = (p : Int) := by omega
          have hpL : p < L := by have := HL.out; omega
          have hzd := dgt_lt (b := 256) (by omega) Z' p
          have hyd := dgt_lt (b := 256) (by omega) y k
          have hcz := hblk'.out.cell p
          rw [dcells_get _ _ _ hpL] at hcz
          have hfz := hblk'.out.frozen p
          obtain ⟨ga, cap, e1, _, hga, hcx, hfx⟩ := (HO3.out.below hbw (fun g' e => by have := (HO3.out.lt g' e).2; have := HG.out; omega)).cell (j := i) (by rw [dl_length]; exact hlt)
          injection e1 with e1 e2 e3
          subst e1
          rw [dl_get] at hcx
          have K2 := fun m => rAt_c y Y k _ A2 c2 (wr.drewN m) (by have := HY.out; omega) (by omega) (by omega) ((HO2.out.below hbw (fun g' e => by have := (HO2.out.lt g' e).2; have := HG.out; omega)).drewN m)
          obtain ⟨s, hs⟩ : ∃ s, s = q + dgt 256 Z' p + dgt 256 x i * dgt 256 y k := ⟨_, rfl⟩
          have hst := tms_step htm.out (s := s) (by rw [hs, hp])
          rw [← hp] at hst
          have hsm := tms_next hq hzd ha hyd
          rw [← hs] at hsm
          have HST := Lib.hid hst
          have HP := Lib.hid hp
          generalize dgt 256 Z' p = z at *
          generalize dgt 256 y k = b at *
          generalize dgt 256 x i = a at *
          obtain ⟨ab, hab⟩ : ∃ ab, ab = a * b := ⟨_, rfl⟩
          have habI : (a : Int) * (b : Int) = (ab : Int) := by rw [hab, Int.natCast_mul]
          rw [← hab] at hsm hs
          have hsI : (q : Int) + (z : Int) + (ab : Int) = (s : Int) := by omega
          have hw1 : IntKind.i64.wrap ((i : Int) + (k : Int)) = (p : Int) := by rw [IntWalk.i64_in _ (by omega)]; omega
          have hw3 : IntKind.i64.wrap ((a : Int) * (b : Int)) = (ab : Int) := by rw [habI, IntWalk.i64_in _ (by omega)]
          obtain ⟨r, hr⟩ : ∃ r, r = s % 256 := ⟨_, rfl⟩
          obtain ⟨e, he⟩ : ∃ e, e = s / 256 := ⟨_, rfl⟩
          have hrI : (s : Int) % 256 = (r : Int) := by omega
          have heI : (s : Int).tdiv 256 = (e : Int) := by rw [Int.tdiv_eq_ediv_of_nonneg (by omega)]; omega
          have hr2 : r < 256 := by omega
          have he2 : e ≤ 255 := by omega
          have hs2 : s ≤ 65535 := hsm.1
          rw [← hr, ← he] at HST
          have hkb : k ≤ 100000000 := by omega
          have hib : i ≤ 100000000 := by omega
          have hab2 : ab ≤ 65025 := hsm.2.2
          have hp0 : (0 : Int) ≤ (p : Int) := by omega
          have hptn : ((p : Int)).toNat = p := Int.toNat_natCast p
          have H2 := Lib.hid K2
          have HS := Lib.hid hs
          have HAB := Lib.hid hab
          have HSTOP := Lib.hid hstop
          have hcase : k < Y ∨ (¬ k < Y ∧ 0 < q) := by
            by_cases c : k < Y
            · exact Or.inl c
            · exact Or.inr ⟨c, Nat.pos_of_ne_zero (fun c2 => HSTOP.out ⟨Nat.le_of_not_lt c, c2⟩)⟩
          have HPL := Lib.hid hpL
          have HKY := Lib.hid hkY
          have HLT := Lib.hid hlt
          clear K2 hst hp hs hab hstop hfx e2 e3 hr he hsm
          rcases hcase with h | ⟨h, h'⟩
          all_goals
            go_wp2_with fail
            go_quiet ((go_at_call 122; exact Calls.quiet_of_same ((H2.out _).mono fun _ _ h => ⟨h.1, h.2.symm⟩)))
            rename_i nq
            have hbq := below_drewN hbw nq
            have hblkq := Lib.hid (hblk'.out.drewN nq)
            have hfq : (wr.drewN nq).frozen? ⟨g, p, none⟩ = false := hfz
            have hczq : (wr.drewN nq).cell? ⟨g, p, none⟩ = some (.int .i64 (z : Nat)) := hcz
            generalize wr.drewN nq = wq at *
            have HB1 := hblkq.out.set_ p (.int .i64 ((r : Nat) : Int))
            rw [dcells_set _ _ _ _ hr2] at HB1
            have HB2 := Lib.hid HB1
            have hb1 := hbq.setCell (p := ⟨g, p, none⟩) (Nat.le_refl _) (.int .i64 ((r : Nat) : Int))
            clear HB1
            go_wp2_with fail
            go_roundw
            case rel => exact ⟨k + 1, e, put 256 Z' p r, by have := HKY.out; omega, by go_num, rfl, he2, HST, HB2, hb1⟩
            case measure =>
              have := HKY.out
              clear hw1 hw3 hrI heI hsI habI hpI hptn hLI
              simp [intOf]; omega
    · obtain rfl : i = X := by omega
      have hE := hZ.out
      rw [HX.out, tms_all] at hE
      have hof : of 256 (dl 256 Z L) = x * y := by rw [hE, HL.out, HX.out, HY.out]; exact tms_fits x y
      have HOF := Lib.hid hof
      have HLL : Hid ((dl 256 Z L).length ≤ 1000000000) := Lib.hid (by rw [dl_length]; omega)
      have HO : Hid (Own wr g 3 .i64 (.slice (some ⟨g, 0, none⟩) L L) (dl 256 Z L)) := Lib.hid (Own.of_fcells hblk.out (Nat.le_refl _) (by omega))
      have hbc : Below w.heap.size w wr := below_chain hb12 (by have h := HG.out; rw [h] at hb; exact hb)
      clear hE hof hb
      go_wp2_with fail
      refine (rMade_c _ _ _ _ (dl_lt256 Z L) HLL.out HO.out).mono ?_
      rintro e w' ⟨rfl, hb'⟩
      go_wp2_with fail
      go_ret
      exact ⟨by rw [HOF.out]; rfl, below_chain hbc hb'⟩
set_option maxRecDepth 100000 in
theorem rMul_c (x y : Nat) (w : World) (hx : nd 256 x ≤ 100000000) (hy : nd 256 y ≤ 100000000) (hz : 16385 < nd 256 x + nd 256 y → x ≠ 0 ∧ y ≠ 0) :
    Calls Tryz.prog 119 #[.string (natS x), .string (natS y)] w (StrPost (resS (x * y)) (resE (x * y)) w) := by
  have hsx := natS_size x
  have hsy := natS_size y
  have hm : nd 256 (x * y) ≤ nd 256 x + nd 256 y := by
    refine nd_le (by omega) ?_
    have h := Nat.mul_lt_mul'' (lt_nd (b := 256) (n := x) (by omega)) (lt_nd (b := 256) (n := y) (by omega))
    rwa [← Nat.pow_add] at h
  by_cases h : 16385 < nd 256 x + nd 256 y
  · obtain ⟨h0, h1⟩ := hz h
    have hno : ¬ fits (x * y) := fun c => by
      have hx2 : nd 256 x ≠ 0 := fun d => h0 ((nd_eq_zero (by omega)).1 d)
      have hy2 : nd 256 y ≠ 0 := fun d => h1 ((nd_eq_zero (by omega)).1 d)
      have hx1 : 256 ^ (nd 256 x - 1) ≤ x := (pow_le_iff (by omega) _ _).2 (by omega)
      have hy1 : 256 ^ (nd 256 y - 1) ≤ y := (pow_le_iff (by omega) _ _).2 (by omega)
      have h2 := Nat.mul_le_mul hx1 hy1
      rw [← Nat.pow_add] at h2
      have h3 := (pow_le_iff (b := 256) (by omega) _ _).1 h2
      unfold fits at c
      omega
    have HE := Lib.hid (resE_no hno)
    have HS := Lib.hid (resS_no hno)
    have h2 : (16385 : Int) < (nd 256 x : Int) + (nd 256 y : Int) := by omega
    clear hm hno hz h0 h1
    go_enter Tryz.func119, Tryz.ntmps119
    go_wp2_with fail
    go_ret2
    exact ⟨by rw [HE.out, HS.out]; rfl, Below.refl _ _⟩
  · have KT := Lib.hid (fun w => rTimes_c x y w hx hy)
    have KE := Lib.hid (fun w => rEnded_c (x * y) w (by omega))
    have h2 : ¬ (16385 : Int) < (nd 256 x : Int) + (nd 256 y : Int) := by omega
    clear hm hz
    go_enter Tryz.func119, Tryz.ntmps119
    go_wp2_with fail
    refine (KT.out _).mono ?_
    rintro e w1 ⟨rfl, hb1⟩
    go_wp2_with fail
    refine (KE.out _).mono ?_
    rintro e w2 ⟨rfl, rfl⟩
    go_wp2_with fail
    go_ret2
    exact ⟨rfl, hb1⟩
end Go.Proofs.YtajcapliokblfaaGreatDoor
namespace Go.Proofs.YtajcapliokblfaaGreatDoor
open Go Go.RowKit Nt
theorem two_cells_set (q v : Nat) : (fcells .i64 (fun _ => 0) (q + 1)).setIfInBounds q (.int .i64 (v : Nat)) = fcells .i64 (fun j => if j = q then v else 0) (q + 1) := by
  rw [fcells_set]
theorem made_fc (k : IntKind) (L : Nat) : madeCells (Value.cells (.int k 0)) (L * 1) = fcells k (fun _ => 0) L := by rw [Nat.mul_one]; exact fcells_made _ _
set_option maxRecDepth 100000 in
theorem rTwo_c (n : Nat) (w : World) (hn : n ≤ 1000000) :
    Calls Tryz.prog 120 #[.int .i64 (n : Nat)] w fun e w' => e = .returned (.string (natS (2 ^ n))) ∧ Below w.heap.size w w' := by
  obtain ⟨i0, hi0, hz0, hj1, hj2⟩ := info_parts (P := Tryz.prog) (e := 3) (z := .int .i64 0) (size := 1) (bytes := 8) (by kernel_rfl)
  obtain ⟨q, hq⟩ : ∃ q, q = n / 8 := ⟨_, rfl⟩
  obtain ⟨r, hr⟩ : ∃ r, r = n % 8 := ⟨_, rfl⟩
  have hof := two_of n
  rw [← hq, ← hr] at hof
  have hqI : (n : Int).tdiv 8 = (q : Int) := by rw [Int.tdiv_eq_ediv_of_nonneg (by omega)]; omega
  have hrI : (n : Int) % 8 = (r : Int) := by omega
  have hr8 : r < 8 := by omega
  have hq2 : q ≤ 125000 := by omega
  have hpow : 2 ^ r < 256 := by
    have := Nat.pow_lt_pow_right (show 1 < 2 by omega) hr8
    omega
  obtain ⟨p, hp⟩ : ∃ p, p = 2 ^ r := ⟨_, rfl⟩
  rw [← hp] at hof hpow
  have hpI : (2 : Int) ^ r = (p : Int) := by rw [hp]; exact (Int.natCast_pow 2 r).symm
  have HOF := Lib.hid hof
  have HPOW := Lib.hid hpow
  have HQ := Lib.hid hq
  have HS : ∀ w1 : World, Blk w1 w.heap.size 3 (fcells .i64 (fun _ => 0) (q + 1)) → w1.cell? ⟨w.heap.size, q, none⟩ = some (.int .i64 0) ∧ w1.frozen? ⟨w.heap.size, q, none⟩ = false := fun w1 h =>
    ⟨by rw [h.cell, fcells_get _ _ _ _ (by omega)]; rfl, h.frozen q⟩
  have HC := Lib.hid HS
  clear hof hq hr hp HS
  go_enter Tryz.func120, Tryz.ntmps120
  go_wp2_with (at_make; go_loud ((refine wpList_make_zero _ rfl _ _ _ rfl 3 i0 _ Tryz.underlying139 hi0 hz0 hj1 .i64 .i64 _ _ (q + 1) rfl rfl (by omega) (by omega) (by rw [hj2]; omega) (by unfold maxLen; omega) ?_); rw [made_fc]; have HB0 := Lib.hid (Blk.new w 3 (fcells .i64 (fun _ => 0) (q + 1))); have hbl : Below w.heap.size w (w.alloc (.cells (fcells .i64 (fun _ => 0) (q + 1)) 3)) := (Below.refl _ _).alloc (Nat.le_refl _) _; generalize w.alloc (.cells (fcells .i64 (fun _ => 0) (q + 1)) 3) = w3 at *; obtain ⟨hcz, hfz⟩ := HC.out w3 HB0.out))
  all_goals
    have HB1 := HB0.out.set_ q (.int .i64 ((p : Nat) : Int))
    rw [two_cells_set] at HB1
    have HO : Hid (Own (w3.setCell ⟨w.heap.size, q, none⟩ (.int .i64 ((p : Nat) : Int))) w.heap.size 3 .i64 (.slice (some ⟨w.heap.size, 0, none⟩) (q + 1) (q + 1)) ((List.range (q + 1)).map fun j => if j = q then p else 0)) := Lib.hid (Own.of_fcells HB1 (Nat.le_refl _) (by omega))
    have HLL : Hid (((List.range (q + 1)).map fun j => if j = q then p else 0).length ≤ 1000000000) := Lib.hid (by rw [List.length_map, List.length_range]; omega)
    have HLT : Hid (∀ x ∈ (List.range (q + 1)).map fun j => if j = q then p else 0, x < 256) := Lib.hid (fun x hx => by
      obtain ⟨j, _, rfl⟩ := List.mem_map.1 hx
      have := HPOW.out
      split <;> omega)
    have hb1 := hbl.setCell (p := ⟨w.heap.size, q, none⟩) (Nat.le_refl _) (.int .i64 ((p : Nat) : Int))
    have KM := rMade_c _ _ _ _ HLT.out (by have := HLL.out; rw [List.length_map, List.length_range] at *; omega) HO.out
    rw [HOF.out] at KM
    refine KM.mono ?_
    rintro e w' ⟨rfl, hb'⟩
    go_wp2_with fail
    go_ret
    exact ⟨rfl, below_chain hb1 hb'⟩
theorem two_nd (n : Nat) : nd 256 (2 ^ n) ≤ n / 8 + 1 := by
  refine nd_le (by omega) ?_
  rw [show (256 : Nat) = 2 ^ 8 by rfl, ← Nat.pow_mul]
  exact Nat.pow_lt_pow_right (by omega) (by omega)
theorem nd_two_big {a n : Nat} (e : Nat) (h : 8 * e ≤ n) (ha : a ≠ 0) : e < nd 256 (a * 2 ^ n) := by
  refine (pow_le_iff (b := 256) (by omega) e _).1 ?_
  have h4 : 2 ^ n ≤ a * 2 ^ n := Nat.le_mul_of_pos_left _ (by omega)
  refine Nat.le_trans ?_ h4
  rw [show (256 : Nat) = 2 ^ 8 by rfl, ← Nat.pow_mul]
  exact Nat.pow_le_pow_right (by omega) h
set_option maxRecDepth 100000 in
theorem rShift_same (a : Nat) (n : Int) (w : World) (h : a = 0 ∨ n = 0) :
    Calls Tryz.prog 66 #[.string (natS a), .int .i64 n] w (StrPost (natS a) 0 w) := by
  by_cases h0 : a = 0
  · subst h0
    have hE := natS_empty (n := 0) rfl
    clear h
    go_enter Tryz.func66, Tryz.ntmps66
    go_wp2_with fail
    go_ret2
    exact ⟨rfl, Below.refl _ _⟩
  · obtain rfl : n = 0 := by rcases h with h | h; exact absurd h h0; exact h
    have hE := natS_full h0
    have hE2 := natS_full2 h0
    clear h h0
    go_enter Tryz.func66, Tryz.ntmps66
    go_wp2_with fail
    go_ret2
    exact ⟨rfl, Below.refl _ _⟩
set_option maxRecDepth 100000 in
theorem rShift_up (a n : Nat) (w : World) (h0 : a ≠ 0) (hn : n ≠ 0) (hf : fits a) :
    Calls Tryz.prog 66 #[.string (natS a), .int .i64 (n : Nat)] w (StrPost (resS (a * 2 ^ n)) (resE (a * 2 ^ n)) w) := by
  have hE := natS_full h0
  have hE2 := natS_full2 h0
  have h1 : ¬ (n : Int) = 0 := by omega
  have h2 : ((n : Int) == 0) = false := by rw [beq_eq_false_iff_ne]; exact h1
  have h3 : (0 : Int) < (n : Int) := by omega
  by_cases hl : 131072 < n
  · have hno : ¬ fits (a * 2 ^ n) := fun c => by
      have h6 := nd_two_big (a := a) (n := n) 16384 (by omega) h0
      unfold fits at c; omega
    have HE := Lib.hid (resE_no hno)
    have HS := Lib.hid (resS_no hno)
    have hl' : (131072 : Int) < (n : Int) := by omega
    clear hno h0 hn hf
    go_enter Tryz.func66, Tryz.ntmps66
    go_wp2_with fail
    go_ret2
    exact ⟨by rw [HE.out, HS.out]; rfl, Below.refl _ _⟩
  · have KT := Lib.hid (fun w => rTwo_c n w (by omega))
    have KM := Lib.hid (fun w => rMul_c a (2 ^ n) w (by unfold fits at hf; omega) (by have := two_nd n; omega) (fun _ => ⟨h0, by have := Nat.two_pow_pos n; omega⟩))
    have hl' : ¬ (131072 : Int) < (n : Int) := by omega
    clear h0 hn hf
    go_enter Tryz.func66, Tryz.ntmps66
    go_wp2_with fail
    refine (KT.out _).mono ?_
    rintro e w1 ⟨rfl, hb1⟩
    go_wp2_with fail
    refine (KM.out _).mono ?_
    rintro e w2 ⟨rfl, hb2⟩
    go_wp2_with fail
    go_ret2
    exact ⟨rfl, below_chain hb1 hb2⟩
end Go.Proofs.YtajcapliokblfaaGreatDoor
namespace Go.Proofs.YtajcapliokblfaaGreatDoor
open Go Go.RowKit Nt
theorem fits_nd {n k : Nat} (h : nd 256 n ≤ k) (hk : k ≤ 16384) : fits n := Nat.le_trans h hk
end Go.Proofs.YtajcapliokblfaaGreatDoor
namespace Go.Proofs.YtajcapliokblfaaGreatDoor
open Go Go.RowKit Nt
theorem BR.boxZ {w : World} {l : List C3} {W : World} (h : BR w l W) (c : C3) (hi : l[0]? = some c) : w.heap.size < W.heap.size ∧ W.cell? ⟨w.heap.size, 0, none⟩ = some c.1 ∧ W.cell? ⟨w.heap.size, 1, none⟩ = some c.2.1 ∧ W.cell? ⟨w.heap.size, 2, none⟩ = some c.2.2 ∧ W.frozen? ⟨w.heap.size, 0, none⟩ = false ∧ W.frozen? ⟨w.heap.size, 1, none⟩ = false ∧ W.frozen? ⟨w.heap.size, 2, none⟩ = false := h.box 0 c hi
end Go.Proofs.YtajcapliokblfaaGreatDoor
namespace Go.Proofs.YtajcapliokblfaaGreatDoor
open Go Go.RowKit Nt Go.Lib
theorem pw_split {n q r : Nat} (h : n = 8 * q + r) : 2 ^ n = 2 ^ r * 256 ^ q := by
  rw [h, Nat.pow_add, Nat.pow_mul, Nat.mul_comm]
theorem pw_nd {n q r : Nat} (h : n = 8 * q + r) (hr : r < 8) : nd 256 (2 ^ n) = q + 1 := by
  have e := pw_split h
  have h1 : 0 < 256 ^ q := Nat.pow_pos (by omega)
  have h2 : 2 ^ r < 256 := Nat.lt_of_lt_of_le (Nat.pow_lt_pow_right (by omega) hr) (by decide)
  have h3 : 0 < 2 ^ r := Nat.pow_pos (by omega)
  refine nd_unique (by omega) ?_ ?_
  · rw [e]; exact Nat.le_mul_of_pos_left _ h3
  · rw [e, Nat.pow_succ, Nat.mul_comm]; exact Nat.mul_lt_mul_of_pos_left h2 h1
theorem pw_dgt {n q r : Nat} (h : n = 8 * q + r) (hr : r < 8) (j : Nat) (hj : j ≤ q) : dgt 256 (2 ^ n) (q - j) = if j = 0 then 2 ^ r else 0 := by
  have h2 : 2 ^ r < 256 := Nat.lt_of_lt_of_le (Nat.pow_lt_pow_right (by omega) hr) (by decide)
  have h1 : 0 < 256 ^ (q - j) := Nat.pow_pos (by omega)
  rw [dgt_def, pw_split h]
  have e : 256 ^ q = 256 ^ j * 256 ^ (q - j) := by rw [← Nat.pow_add]; congr 1; omega
  rw [e, ← Nat.mul_assoc, Nat.mul_div_cancel _ h1]
  by_cases h0 : j = 0
  · subst h0; rw [if_pos rfl, Nat.pow_zero, Nat.mul_one]; exact Nat.mod_eq_of_lt h2
  · rw [if_neg h0]
    obtain ⟨k, rfl⟩ : ∃ k, j = k + 1 := ⟨j - 1, by omega⟩
    rw [Nat.pow_succ, ← Nat.mul_assoc]; exact Nat.mul_mod_left _ _
set_option maxRecDepth 100000 in
set_option maxHeartbeats 1000000 in
theorem rPw_0 (n : Nat) (w : World) (hn : n ≤ 200000) (hr : n % 8 = 0) : Calls Tryz.prog 51 #[.int .i64 (n : Nat)] w fun e w' => e = .returned (.string (natS (2 ^ n))) ∧ Below w.heap.size w w' := by
  obtain ⟨i0, hi0, hz0, hz1, hz2⟩ := info_parts (P := Tryz.prog) (e := 5) (z := .int .u8 0) (size := 1) (bytes := 1) (by kernel_rfl)
  obtain ⟨q, hq⟩ : ∃ q, q = n / 8 := ⟨_, rfl⟩
  have hs : n = 8 * q + 0 := by omega
  obtain ⟨N, hN⟩ : ∃ N, N = 2 ^ n := ⟨_, rfl⟩
  have hnd := pw_nd hs (by decide)
  have hdg := pw_dgt hs (by decide)
  rw [← hN] at hnd hdg ⊢
  rw [show (2 : Nat) ^ 0 = 1 by rfl] at hdg
  have HND := Lib.hid hnd
  have HDG := Lib.hid hdg
  clear hnd hdg hN
  have e1 : (n : Int) / 8 = (q : Int) := by omega
  have e2 : (n : Int) % 8 = 0 := by omega
  have e3 : (n : Int).tdiv 8 = (q : Int) := by rw [Int.tdiv_eq_ediv_of_nonneg (by omega)]; exact e1
  have e4 : (n : Int).tmod 8 = 0 := by rw [Int.tmod_eq_emod_of_nonneg (by omega)]; exact e2
  have hq5 : q ≤ 25000 := by omega
  clear hq hr hs
  go_enter Tryz.func51, Tryz.ntmps51
  go_upto_region 2 with (first | (at_make; go_loud (refine wpList_make_zero _ rfl (.tmp 6) (.tmp 6) _ rfl 5 i0 _ Tryz.underlying64 hi0 hz0 hz1 .i64 .i64 _ _ (q + 1) rfl rfl (by first | assumption | rfl) (by first | assumption | rfl) (by rw [hz2]; omega) (by unfold maxLen; omega) ?_)))
  rw [fcells_made]
  have HB0 := Lib.hid (Blk.new w 5 (fcells .u8 (fun _ => 0) (q + 1)))
  have hbl : Below w.heap.size w (w.alloc (.cells (fcells .u8 (fun _ => 0) (q + 1)) 5)) := (Below.refl _ _).alloc (Nat.le_refl _) _
  generalize w.alloc (.cells (fcells .u8 (fun _ => 0) (q + 1)) 5) = w1 at *
  obtain ⟨g, hg⟩ : ∃ g, g = w.heap.size := ⟨_, rfl⟩
  rw [← hg] at HB0 hbl ⊢
  have HG := Lib.hid hg
  clear hg
  have hfz := HB0.out.frozen 0
  have hck := HB0.out.cell 0
  rw [fcells_get _ _ _ _ (by omega)] at hck
  have HB1 := Lib.hid (HB0.out.set_ 0 (.int .u8 ((1 : Nat) : Int)))
  rw [fcells_set] at HB1
  simp only [show ((1 : Nat) : Int) = 1 from rfl] at HB1
  have hb1 := hbl.setCell (p := ⟨g, 0, none⟩) (Nat.le_refl _) (.int .u8 1)
  have HBL := Lib.hid hb1
  clear hb1 hbl
  go_upto_region 3 with fail
  generalize w1.setCell ⟨g, 0, none⟩ (.int .u8 1) = w2 at *
  clear hfz hck HB0
  have hcv : (convert 64 22 (.slice (some ⟨g, 0, none⟩) (q + 1) (q + 1))).run Tryz.prog w2 = .ok (.string (natS N)) w2 := by
    have hN := HND.out
    have hl : ((dl 256 N (nd 256 N)).reverse.map UInt8.ofNat).length = q + 1 := by simp [dl_length, hN]
    have h := run_convert_bytes_back (P := Tryz.prog) w2 64 22 5 ⟨g, 0, none⟩ (q + 1) ((dl 256 N (nd 256 N)).reverse.map UInt8.ofNat) Tryz.underlying64 Tryz.underlying5 Tryz.underlying22 (fun j hj => by
      have hjq : j < q + 1 := by rw [← hl]; exact hj
      rw [add_plain0, HB1.out.cell, fcells_get _ _ _ _ hjq]
      have e := natS_get N j (by rw [natS_size, hN]; exact hjq)
      rw [ba_get] at e
      simp only [natS_def] at e
      rw [List.getElem_toArray] at e
      rw [e, hN, show q + 1 - 1 - j = q - j by omega, HDG.out j (by omega)])
    rw [hl, ← natS_def] at h
    exact h
  go_wp2
  go_ret
  exact ⟨rfl, by rw [← HG.out]; exact HBL.out⟩
set_option maxRecDepth 100000 in
set_option maxHeartbeats 1000000 in
theorem rPw_1 (n : Nat) (w : World) (hn : n ≤ 200000) (hr : n % 8 = 1) : Calls Tryz.prog 51 #[.int .i64 (n : Nat)] w fun e w' => e = .returned (.string (natS (2 ^ n))) ∧ Below w.heap.size w w' := by
  obtain ⟨i0, hi0, hz0, hz1, hz2⟩ := info_parts (P := Tryz.prog) (e := 5) (z := .int .u8 0) (size := 1) (bytes := 1) (by kernel_rfl)
  obtain ⟨q, hq⟩ : ∃ q, q = n / 8 := ⟨_, rfl⟩
  have hs : n = 8 * q + 1 := by omega
  obtain ⟨N, hN⟩ : ∃ N, N = 2 ^ n := ⟨_, rfl⟩
  have hnd := pw_nd hs (by decide)
  have hdg := pw_dgt hs (by decide)
  rw [← hN] at hnd hdg ⊢
  rw [show (2 : Nat) ^ 1 = 2 by rfl] at hdg
  have HND := Lib.hid hnd
  have HDG := Lib.hid hdg
  clear hnd hdg hN
  have e1 : (n : Int) / 8 = (q : Int) := by omega
  have e2 : (n : Int) % 8 = 1 := by omega
  have e3 : (n : Int).tdiv 8 = (q : Int) := by rw [Int.tdiv_eq_ediv_of_nonneg (by omega)]; exact e1
  have e4 : (n : Int).tmod 8 = 1 := by rw [Int.tmod_eq_emod_of_nonneg (by omega)]; exact e2
  have hq5 : q ≤ 25000 := by omega
  clear hq hr hs
  go_enter Tryz.func51, Tryz.ntmps51
  go_upto_region 2 with (first | (at_make; go_loud (refine wpList_make_zero _ rfl (.tmp 6) (.tmp 6) _ rfl 5 i0 _ Tryz.underlying64 hi0 hz0 hz1 .i64 .i64 _ _ (q + 1) rfl rfl (by first | assumption | rfl) (by first | assumption | rfl) (by rw [hz2]; omega) (by unfold maxLen; omega) ?_)))
  rw [fcells_made]
  have HB0 := Lib.hid (Blk.new w 5 (fcells .u8 (fun _ => 0) (q + 1)))
  have hbl : Below w.heap.size w (w.alloc (.cells (fcells .u8 (fun _ => 0) (q + 1)) 5)) := (Below.refl _ _).alloc (Nat.le_refl _) _
  generalize w.alloc (.cells (fcells .u8 (fun _ => 0) (q + 1)) 5) = w1 at *
  obtain ⟨g, hg⟩ : ∃ g, g = w.heap.size := ⟨_, rfl⟩
  rw [← hg] at HB0 hbl ⊢
  have HG := Lib.hid hg
  clear hg
  have hfz := HB0.out.frozen 0
  have hck := HB0.out.cell 0
  rw [fcells_get _ _ _ _ (by omega)] at hck
  have HB1 := Lib.hid (HB0.out.set_ 0 (.int .u8 ((2 : Nat) : Int)))
  rw [fcells_set] at HB1
  simp only [show ((2 : Nat) : Int) = 2 from rfl] at HB1
  have hb1 := hbl.setCell (p := ⟨g, 0, none⟩) (Nat.le_refl _) (.int .u8 2)
  have HBL := Lib.hid hb1
  clear hb1 hbl
  go_upto_region 3 with fail
  generalize w1.setCell ⟨g, 0, none⟩ (.int .u8 2) = w2 at *
  clear hfz hck HB0
  have hcv : (convert 64 22 (.slice (some ⟨g, 0, none⟩) (q + 1) (q + 1))).run Tryz.prog w2 = .ok (.string (natS N)) w2 := by
    have hN := HND.out
    have hl : ((dl 256 N (nd 256 N)).reverse.map UInt8.ofNat).length = q + 1 := by simp [dl_length, hN]
    have h := run_convert_bytes_back (P := Tryz.prog) w2 64 22 5 ⟨g, 0, none⟩ (q + 1) ((dl 256 N (nd 256 N)).reverse.map UInt8.ofNat) Tryz.underlying64 Tryz.underlying5 Tryz.underlying22 (fun j hj => by
      have hjq : j < q + 1 := by rw [← hl]; exact hj
      rw [add_plain0, HB1.out.cell, fcells_get _ _ _ _ hjq]
      have e := natS_get N j (by rw [natS_size, hN]; exact hjq)
      rw [ba_get] at e
      simp only [natS_def] at e
      rw [List.getElem_toArray] at e
      rw [e, hN, show q + 1 - 1 - j = q - j by omega, HDG.out j (by omega)])
    rw [hl, ← natS_def] at h
    exact h
  go_wp2
  go_ret
  exact ⟨rfl, by rw [← HG.out]; exact HBL.out⟩
set_option maxRecDepth 100000 in
set_option maxHeartbeats 1000000 in
theorem rPw_2 (n : Nat) (w : World) (hn : n ≤ 200000) (hr : n % 8 = 2) : Calls Tryz.prog 51 #[.int .i64 (n : Nat)] w fun e w' => e = .returned (.string (natS (2 ^ n))) ∧ Below w.heap.size w w' := by
  obtain ⟨i0, hi0, hz0, hz1, hz2⟩ := info_parts (P := Tryz.prog) (e := 5) (z := .int .u8 0) (size := 1) (bytes := 1) (by kernel_rfl)
  obtain ⟨q, hq⟩ : ∃ q, q = n / 8 := ⟨_, rfl⟩
  have hs : n = 8 * q + 2 := by omega
  obtain ⟨N, hN⟩ : ∃ N, N = 2 ^ n := ⟨_, rfl⟩
  have hnd := pw_nd hs (by decide)
  have hdg := pw_dgt hs (by decide)
  rw [← hN] at hnd hdg ⊢
  rw [show (2 : Nat) ^ 2 = 4 by rfl] at hdg
  have HND := Lib.hid hnd
  have HDG := Lib.hid hdg
  clear hnd hdg hN
  have e1 : (n : Int) / 8 = (q : Int) := by omega
  have e2 : (n : Int) % 8 = 2 := by omega
  have e3 : (n : Int).tdiv 8 = (q : Int) := by rw [Int.tdiv_eq_ediv_of_nonneg (by omega)]; exact e1
  have e4 : (n : Int).tmod 8 = 2 := by rw [Int.tmod_eq_emod_of_nonneg (by omega)]; exact e2
  have hq5 : q ≤ 25000 := by omega
  clear hq hr hs
  go_enter Tryz.func51, Tryz.ntmps51
  go_upto_region 2 with (first | (at_make; go_loud (refine wpList_make_zero _ rfl (.tmp 6) (.tmp 6) _ rfl 5 i0 _ Tryz.underlying64 hi0 hz0 hz1 .i64 .i64 _ _ (q + 1) rfl rfl (by first | assumption | rfl) (by first | assumption | rfl) (by rw [hz2]; omega) (by unfold maxLen; omega) ?_)))
  rw [fcells_made]
  have HB0 := Lib.hid (Blk.new w 5 (fcells .u8 (fun _ => 0) (q + 1)))
  have hbl : Below w.heap.size w (w.alloc (.cells (fcells .u8 (fun _ => 0) (q + 1)) 5)) := (Below.refl _ _).alloc (Nat.le_refl _) _
  generalize w.alloc (.cells (fcells .u8 (fun _ => 0) (q + 1)) 5) = w1 at *
  obtain ⟨g, hg⟩ : ∃ g, g = w.heap.size := ⟨_, rfl⟩
  rw [← hg] at HB0 hbl ⊢
  have HG := Lib.hid hg
  clear hg
  have hfz := HB0.out.frozen 0
  have hck := HB0.out.cell 0
  rw [fcells_get _ _ _ _ (by omega)] at hck
  have HB1 := Lib.hid (HB0.out.set_ 0 (.int .u8 ((4 : Nat) : Int)))
  rw [fcells_set] at HB1
  simp only [show ((4 : Nat) : Int) = 4 from rfl] at HB1
  have hb1 := hbl.setCell (p := ⟨g, 0, none⟩) (Nat.le_refl _) (.int .u8 4)
  have HBL := Lib.hid hb1
  clear hb1 hbl
  go_upto_region 3 with fail
  generalize w1.setCell ⟨g, 0, none⟩ (.int .u8 4) = w2 at *
  clear hfz hck HB0
  have hcv : (convert 64 22 (.slice (some ⟨g, 0, none⟩) (q + 1) (q + 1))).run Tryz.prog w2 = .ok (.string (natS N)) w2 := by
    have hN := HND.out
    have hl : ((dl 256 N (nd 256 N)).reverse.map UInt8.ofNat).length = q + 1 := by simp [dl_length, hN]
    have h := run_convert_bytes_back (P := Tryz.prog) w2 64 22 5 ⟨g, 0, none⟩ (q + 1) ((dl 256 N (nd 256 N)).reverse.map UInt8.ofNat) Tryz.underlying64 Tryz.underlying5 Tryz.underlying22 (fun j hj => by
      have hjq : j < q + 1 := by rw [← hl]; exact hj
      rw [add_plain0, HB1.out.cell, fcells_get _ _ _ _ hjq]
      have e := natS_get N j (by rw [natS_size, hN]; exact hjq)
      rw [ba_get] at e
      simp only [natS_def] at e
      rw [List.getElem_toArray] at e
      rw [e, hN, show q + 1 - 1 - j = q - j by omega, HDG.out j (by omega)])
    rw [hl, ← natS_def] at h
    exact h
  go_wp2
  go_ret
  exact ⟨rfl, by rw [← HG.out]; exact HBL.out⟩
set_option maxRecDepth 100000 in
set_option maxHeartbeats 1000000 in
theorem rPw_3 (n : Nat) (w : World) (hn : n ≤ 200000) (hr : n % 8 = 3) : Calls Tryz.prog 51 #[.int .i64 (n : Nat)] w fun e w' => e = .returned (.string (natS (2 ^ n))) ∧ Below w.heap.size w w' := by
  obtain ⟨i0, hi0, hz0, hz1, hz2⟩ := info_parts (P := Tryz.prog) (e := 5) (z := .int .u8 0) (size := 1) (bytes := 1) (by kernel_rfl)
  obtain ⟨q, hq⟩ : ∃ q, q = n / 8 := ⟨_, rfl⟩
  have hs : n = 8 * q + 3 := by omega
  obtain ⟨N, hN⟩ : ∃ N, N = 2 ^ n := ⟨_, rfl⟩
  have hnd := pw_nd hs (by decide)
  have hdg := pw_dgt hs (by decide)
  rw [← hN] at hnd hdg ⊢
  rw [show (2 : Nat) ^ 3 = 8 by rfl] at hdg
  have HND := Lib.hid hnd
  have HDG := Lib.hid hdg
  clear hnd hdg hN
  have e1 : (n : Int) / 8 = (q : Int) := by omega
  have e2 : (n : Int) % 8 = 3 := by omega
  have e3 : (n : Int).tdiv 8 = (q : Int) := by rw [Int.tdiv_eq_ediv_of_nonneg (by omega)]; exact e1
  have e4 : (n : Int).tmod 8 = 3 := by rw [Int.tmod_eq_emod_of_nonneg (by omega)]; exact e2
  have hq5 : q ≤ 25000 := by omega
  clear hq hr hs
  go_enter Tryz.func51, Tryz.ntmps51
  go_upto_region 2 with (first | (at_make; go_loud (refine wpList_make_zero _ rfl (.tmp 6) (.tmp 6) _ rfl 5 i0 _ Tryz.underlying64 hi0 hz0 hz1 .i64 .i64 _ _ (q + 1) rfl rfl (by first | assumption | rfl) (by first | assumption | rfl) (by rw [hz2]; omega) (by unfold maxLen; omega) ?_)))
  rw [fcells_made]
  have HB0 := Lib.hid (Blk.new w 5 (fcells .u8 (fun _ => 0) (q + 1)))
  have hbl : Below w.heap.size w (w.alloc (.cells (fcells .u8 (fun _ => 0) (q + 1)) 5)) := (Below.refl _ _).alloc (Nat.le_refl _) _
  generalize w.alloc (.cells (fcells .u8 (fun _ => 0) (q + 1)) 5) = w1 at *
  obtain ⟨g, hg⟩ : ∃ g, g = w.heap.size := ⟨_, rfl⟩
  rw [← hg] at HB0 hbl ⊢
  have HG := Lib.hid hg
  clear hg
  have hfz := HB0.out.frozen 0
  have hck := HB0.out.cell 0
  rw [fcells_get _ _ _ _ (by omega)] at hck
  have HB1 := Lib.hid (HB0.out.set_ 0 (.int .u8 ((8 : Nat) : Int)))
  rw [fcells_set] at HB1
  simp only [show ((8 : Nat) : Int) = 8 from rfl] at HB1
  have hb1 := hbl.setCell (p := ⟨g, 0, none⟩) (Nat.le_refl _) (.int .u8 8)
  have HBL := Lib.hid hb1
  clear hb1 hbl
  go_upto_region 3 with fail
  generalize w1.setCell ⟨g, 0, none⟩ (.int .u8 8) = w2 at *
  clear hfz hck HB0
  have hcv : (convert 64 22 (.slice (some ⟨g, 0, none⟩) (q + 1) (q + 1))).run Tryz.prog w2 = .ok (.string (natS N)) w2 := by
    have hN := HND.out
    have hl : ((dl 256 N (nd 256 N)).reverse.map UInt8.ofNat).length = q + 1 := by simp [dl_length, hN]
    have h := run_convert_bytes_back (P := Tryz.prog) w2 64 22 5 ⟨g, 0, none⟩ (q + 1) ((dl 256 N (nd 256 N)).reverse.map UInt8.ofNat) Tryz.underlying64 Tryz.underlying5 Tryz.underlying22 (fun j hj => by
      have hjq : j < q + 1 := by rw [← hl]; exact hj
      rw [add_plain0, HB1.out.cell, fcells_get _ _ _ _ hjq]
      have e := natS_get N j (by rw [natS_size, hN]; exact hjq)
      rw [ba_get] at e
      simp only [natS_def] at e
      rw [List.getElem_toArray] at e
      rw [e, hN, show q + 1 - 1 - j = q - j by omega, HDG.out j (by omega)])
    rw [hl, ← natS_def] at h
    exact h
  go_wp2
  go_ret
  exact ⟨rfl, by rw [← HG.out]; exact HBL.out⟩
set_option maxRecDepth 100000 in
set_option maxHeartbeats 1000000 in
theorem rPw_4 (n : Nat) (w : World) (hn : n ≤ 200000) (hr : n % 8 = 4) : Calls Tryz.prog 51 #[.int .i64 (n : Nat)] w fun e w' => e = .returned (.string (natS (2 ^ n))) ∧ Below w.heap.size w w' := by
  obtain ⟨i0, hi0, hz0, hz1, hz2⟩ := info_parts (P := Tryz.prog) (e := 5) (z := .int .u8 0) (size := 1) (bytes := 1) (by kernel_rfl)
  obtain ⟨q, hq⟩ : ∃ q, q = n / 8 := ⟨_, rfl⟩
  have hs : n = 8 * q + 4 := by omega
  obtain ⟨N, hN⟩ : ∃ N, N = 2 ^ n := ⟨_, rfl⟩
  have hnd := pw_nd hs (by decide)
  have hdg := pw_dgt hs (by decide)
  rw [← hN] at hnd hdg ⊢
  rw [show (2 : Nat) ^ 4 = 16 by rfl] at hdg
  have HND := Lib.hid hnd
  have HDG := Lib.hid hdg
  clear hnd hdg hN
  have e1 : (n : Int) / 8 = (q : Int) := by omega
  have e2 : (n : Int) % 8 = 4 := by omega
  have e3 : (n : Int).tdiv 8 = (q : Int) := by rw [Int.tdiv_eq_ediv_of_nonneg (by omega)]; exact e1
  have e4 : (n : Int).tmod 8 = 4 := by rw [Int.tmod_eq_emod_of_nonneg (by omega)]; exact e2
  have hq5 : q ≤ 25000 := by omega
  clear hq hr hs
  go_enter Tryz.func51, Tryz.ntmps51
  go_upto_region 2 with (first | (at_make; go_loud (refine wpList_make_zero _ rfl (.tmp 6) (.tmp 6) _ rfl 5 i0 _ Tryz.underlying64 hi0 hz0 hz1 .i64 .i64 _ _ (q + 1) rfl rfl (by first | assumption | rfl) (by first | assumption | rfl) (by rw [hz2]; omega) (by unfold maxLen; omega) ?_)))
  rw [fcells_made]
  have HB0 := Lib.hid (Blk.new w 5 (fcells .u8 (fun _ => 0) (q + 1)))
  have hbl : Below w.heap.size w (w.alloc (.cells (fcells .u8 (fun _ => 0) (q + 1)) 5)) := (Below.refl _ _).alloc (Nat.le_refl _) _
  generalize w.alloc (.cells (fcells .u8 (fun _ => 0) (q + 1)) 5) = w1 at *
  obtain ⟨g, hg⟩ : ∃ g, g = w.heap.size := ⟨_, rfl⟩
  rw [← hg] at HB0 hbl ⊢
  have HG := Lib.hid hg
  clear hg
  have hfz := HB0.out.frozen 0
  have hck := HB0.out.cell 0
  rw [fcells_get _ _ _ _ (by omega)] at hck
  have HB1 := Lib.hid (HB0.out.set_ 0 (.int .u8 ((16 : Nat) : Int)))
  rw [fcells_set] at HB1
  simp only [show ((16 : Nat) : Int) = 16 from rfl] at HB1
  have hb1 := hbl.setCell (p := ⟨g, 0, none⟩) (Nat.le_refl _) (.int .u8 16)
  have HBL := Lib.hid hb1
  clear hb1 hbl
  go_upto_region 3 with fail
  generalize w1.setCell ⟨g, 0, none⟩ (.int .u8 16) = w2 at *
  clear hfz hck HB0
  have hcv : (convert 64 22 (.slice (some ⟨g, 0, none⟩) (q + 1) (q + 1))).run Tryz.prog w2 = .ok (.string (natS N)) w2 := by
    have hN := HND.out
    have hl : ((dl 256 N (nd 256 N)).reverse.map UInt8.ofNat).length = q + 1 := by simp [dl_length, hN]
    have h := run_convert_bytes_back (P := Tryz.prog) w2 64 22 5 ⟨g, 0, none⟩ (q + 1) ((dl 256 N (nd 256 N)).reverse.map UInt8.ofNat) Tryz.underlying64 Tryz.underlying5 Tryz.underlying22 (fun j hj => by
      have hjq : j < q + 1 := by rw [← hl]; exact hj
      rw [add_plain0, HB1.out.cell, fcells_get _ _ _ _ hjq]
      have e := natS_get N j (by rw [natS_size, hN]; exact hjq)
      rw [ba_get] at e
      simp only [natS_def] at e
      rw [List.getElem_toArray] at e
      rw [e, hN, show q + 1 - 1 - j = q - j by omega, HDG.out j (by omega)])
    rw [hl, ← natS_def] at h
    exact h
  go_wp2
  go_ret
  exact ⟨rfl, by rw [← HG.out]; exact HBL.out⟩
set_option maxRecDepth 100000 in
set_option maxHeartbeats 1000000 in
theorem rPw_5 (n : Nat) (w : World) (hn : n ≤ 200000) (hr : n % 8 = 5) : Calls Tryz.prog 51 #[.int .i64 (n : Nat)] w fun e w' => e = .returned (.string (natS (2 ^ n))) ∧ Below w.heap.size w w' := by
  obtain ⟨i0, hi0, hz0, hz1, hz2⟩ := info_parts (P := Tryz.prog) (e := 5) (z := .int .u8 0) (size := 1) (bytes := 1) (by kernel_rfl)
  obtain ⟨q, hq⟩ : ∃ q, q = n / 8 := ⟨_, rfl⟩
  have hs : n = 8 * q + 5 := by omega
  obtain ⟨N, hN⟩ : ∃ N, N = 2 ^ n := ⟨_, rfl⟩
  have hnd := pw_nd hs (by decide)
  have hdg := pw_dgt hs (by decide)
  rw [← hN] at hnd hdg ⊢
  rw [show (2 : Nat) ^ 5 = 32 by rfl] at hdg
  have HND := Lib.hid hnd
  have HDG := Lib.hid hdg
  clear hnd hdg hN
  have e1 : (n : Int) / 8 = (q : Int) := by omega
  have e2 : (n : Int) % 8 = 5 := by omega
  have e3 : (n : Int).tdiv 8 = (q : Int) := by rw [Int.tdiv_eq_ediv_of_nonneg (by omega)]; exact e1
  have e4 : (n : Int).tmod 8 = 5 := by rw [Int.tmod_eq_emod_of_nonneg (by omega)]; exact e2
  have hq5 : q ≤ 25000 := by omega
  clear hq hr hs
  go_enter Tryz.func51, Tryz.ntmps51
  go_upto_region 2 with (first | (at_make; go_loud (refine wpList_make_zero _ rfl (.tmp 6) (.tmp 6) _ rfl 5 i0 _ Tryz.underlying64 hi0 hz0 hz1 .i64 .i64 _ _ (q + 1) rfl rfl (by first | assumption | rfl) (by first | assumption | rfl) (by rw [hz2]; omega) (by unfold maxLen; omega) ?_)))
  rw [fcells_made]
  have HB0 := Lib.hid (Blk.new w 5 (fcells .u8 (fun _ => 0) (q + 1)))
  have hbl : Below w.heap.size w (w.alloc (.cells (fcells .u8 (fun _ => 0) (q + 1)) 5)) := (Below.refl _ _).alloc (Nat.le_refl _) _
  generalize w.alloc (.cells (fcells .u8 (fun _ => 0) (q + 1)) 5) = w1 at *
  obtain ⟨g, hg⟩ : ∃ g, g = w.heap.size := ⟨_, rfl⟩
  rw [← hg] at HB0 hbl ⊢
  have HG := Lib.hid hg
  clear hg
  have hfz := HB0.out.frozen 0
  have hck := HB0.out.cell 0
  rw [fcells_get _ _ _ _ (by omega)] at hck
  have HB1 := Lib.hid (HB0.out.set_ 0 (.int .u8 ((32 : Nat) : Int)))
  rw [fcells_set] at HB1
  simp only [show ((32 : Nat) : Int) = 32 from rfl] at HB1
  have hb1 := hbl.setCell (p := ⟨g, 0, none⟩) (Nat.le_refl _) (.int .u8 32)
  have HBL := Lib.hid hb1
  clear hb1 hbl
  go_upto_region 3 with fail
  generalize w1.setCell ⟨g, 0, none⟩ (.int .u8 32) = w2 at *
  clear hfz hck HB0
  have hcv : (convert 64 22 (.slice (some ⟨g, 0, none⟩) (q + 1) (q + 1))).run Tryz.prog w2 = .ok (.string (natS N)) w2 := by
    have hN := HND.out
    have hl : ((dl 256 N (nd 256 N)).reverse.map UInt8.ofNat).length = q + 1 := by simp [dl_length, hN]
    have h := run_convert_bytes_back (P := Tryz.prog) w2 64 22 5 ⟨g, 0, none⟩ (q + 1) ((dl 256 N (nd 256 N)).reverse.map UInt8.ofNat) Tryz.underlying64 Tryz.underlying5 Tryz.underlying22 (fun j hj => by
      have hjq : j < q + 1 := by rw [← hl]; exact hj
      rw [add_plain0, HB1.out.cell, fcells_get _ _ _ _ hjq]
      have e := natS_get N j (by rw [natS_size, hN]; exact hjq)
      rw [ba_get] at e
      simp only [natS_def] at e
      rw [List.getElem_toArray] at e
      rw [e, hN, show q + 1 - 1 - j = q - j by omega, HDG.out j (by omega)])
    rw [hl, ← natS_def] at h
    exact h
  go_wp2
  go_ret
  exact ⟨rfl, by rw [← HG.out]; exact HBL.out⟩
set_option maxRecDepth 100000 in
set_option maxHeartbeats 1000000 in
theorem rPw_6 (n : Nat) (w : World) (hn : n ≤ 200000) (hr : n % 8 = 6) : Calls Tryz.prog 51 #[.int .i64 (n : Nat)] w fun e w' => e = .returned (.string (natS (2 ^ n))) ∧ Below w.heap.size w w' := by
  obtain ⟨i0, hi0, hz0, hz1, hz2⟩ := info_parts (P := Tryz.prog) (e := 5) (z := .int .u8 0) (size := 1) (bytes := 1) (by kernel_rfl)
  obtain ⟨q, hq⟩ : ∃ q, q = n / 8 := ⟨_, rfl⟩
  have hs : n = 8 * q + 6 := by omega
  obtain ⟨N, hN⟩ : ∃ N, N = 2 ^ n := ⟨_, rfl⟩
  have hnd := pw_nd hs (by decide)
  have hdg := pw_dgt hs (by decide)
  rw [← hN] at hnd hdg ⊢
  rw [show (2 : Nat) ^ 6 = 64 by rfl] at hdg
  have HND := Lib.hid hnd
  have HDG := Lib.hid hdg
  clear hnd hdg hN
  have e1 : (n : Int) / 8 = (q : Int) := by omega
  have e2 : (n : Int) % 8 = 6 := by omega
  have e3 : (n : Int).tdiv 8 = (q : Int) := by rw [Int.tdiv_eq_ediv_of_nonneg (by omega)]; exact e1
  have e4 : (n : Int).tmod 8 = 6 := by rw [Int.tmod_eq_emod_of_nonneg (by omega)]; exact e2
  have hq5 : q ≤ 25000 := by omega
  clear hq hr hs
  go_enter Tryz.func51, Tryz.ntmps51
  go_upto_region 2 with (first | (at_make; go_loud (refine wpList_make_zero _ rfl (.tmp 6) (.tmp 6) _ rfl 5 i0 _ Tryz.underlying64 hi0 hz0 hz1 .i64 .i64 _ _ (q + 1) rfl rfl (by first | assumption | rfl) (by first | assumption | rfl) (by rw [hz2]; omega) (by unfold maxLen; omega) ?_)))
  rw [fcells_made]
  have HB0 := Lib.hid (Blk.new w 5 (fcells .u8 (fun _ => 0) (q + 1)))
  have hbl : Below w.heap.size w (w.alloc (.cells (fcells .u8 (fun _ => 0) (q + 1)) 5)) := (Below.refl _ _).alloc (Nat.le_refl _) _
  generalize w.alloc (.cells (fcells .u8 (fun _ => 0) (q + 1)) 5) = w1 at *
  obtain ⟨g, hg⟩ : ∃ g, g = w.heap.size := ⟨_, rfl⟩
  rw [← hg] at HB0 hbl ⊢
  have HG := Lib.hid hg
  clear hg
  have hfz := HB0.out.frozen 0
  have hck := HB0.out.cell 0
  rw [fcells_get _ _ _ _ (by omega)] at hck
  have HB1 := Lib.hid (HB0.out.set_ 0 (.int .u8 ((64 : Nat) : Int)))
  rw [fcells_set] at HB1
  simp only [show ((64 : Nat) : Int) = 64 from rfl] at HB1
  have hb1 := hbl.setCell (p := ⟨g, 0, none⟩) (Nat.le_refl _) (.int .u8 64)
  have HBL := Lib.hid hb1
  clear hb1 hbl
  go_upto_region 3 with fail
  generalize w1.setCell ⟨g, 0, none⟩ (.int .u8 64) = w2 at *
  clear hfz hck HB0
  have hcv : (convert 64 22 (.slice (some ⟨g, 0, none⟩) (q + 1) (q + 1))).run Tryz.prog w2 = .ok (.string (natS N)) w2 := by
    have hN := HND.out
    have hl : ((dl 256 N (nd 256 N)).reverse.map UInt8.ofNat).length = q + 1 := by simp [dl_length, hN]
    have h := run_convert_bytes_back (P := Tryz.prog) w2 64 22 5 ⟨g, 0, none⟩ (q + 1) ((dl 256 N (nd 256 N)).reverse.map UInt8.ofNat) Tryz.underlying64 Tryz.underlying5 Tryz.underlying22 (fun j hj => by
      have hjq : j < q + 1 := by rw [← hl]; exact hj
      rw [add_plain0, HB1.out.cell, fcells_get _ _ _ _ hjq]
      have e := natS_get N j (by rw [natS_size, hN]; exact hjq)
      rw [ba_get] at e
      simp only [natS_def] at e
      rw [List.getElem_toArray] at e
      rw [e, hN, show q + 1 - 1 - j = q - j by omega, HDG.out j (by omega)])
    rw [hl, ← natS_def] at h
    exact h
  go_wp2
  go_ret
  exact ⟨rfl, by rw [← HG.out]; exact HBL.out⟩
set_option maxRecDepth 100000 in
set_option maxHeartbeats 1000000 in
theorem rPw_7 (n : Nat) (w : World) (hn : n ≤ 200000) (hr : n % 8 = 7) : Calls Tryz.prog 51 #[.int .i64 (n : Nat)] w fun e w' => e = .returned (.string (natS (2 ^ n))) ∧ Below w.heap.size w w' := by
  obtain ⟨i0, hi0, hz0, hz1, hz2⟩ := info_parts (P := Tryz.prog) (e := 5) (z := .int .u8 0) (size := 1) (bytes := 1) (by kernel_rfl)
  obtain ⟨q, hq⟩ : ∃ q, q = n / 8 := ⟨_, rfl⟩
  have hs : n = 8 * q + 7 := by omega
  obtain ⟨N, hN⟩ : ∃ N, N = 2 ^ n := ⟨_, rfl⟩
  have hnd := pw_nd hs (by decide)
  have hdg := pw_dgt hs (by decide)
  rw [← hN] at hnd hdg ⊢
  rw [show (2 : Nat) ^ 7 = 128 by rfl] at hdg
  have HND := Lib.hid hnd
  have HDG := Lib.hid hdg
  clear hnd hdg hN
  have e1 : (n : Int) / 8 = (q : Int) := by omega
  have e2 : (n : Int) % 8 = 7 := by omega
  have e3 : (n : Int).tdiv 8 = (q : Int) := by rw [Int.tdiv_eq_ediv_of_nonneg (by omega)]; exact e1
  have e4 : (n : Int).tmod 8 = 7 := by rw [Int.tmod_eq_emod_of_nonneg (by omega)]; exact e2
  have hq5 : q ≤ 25000 := by omega
  clear hq hr hs
  go_enter Tryz.func51, Tryz.ntmps51
  go_upto_region 2 with (first | (at_make; go_loud (refine wpList_make_zero _ rfl (.tmp 6) (.tmp 6) _ rfl 5 i0 _ Tryz.underlying64 hi0 hz0 hz1 .i64 .i64 _ _ (q + 1) rfl rfl (by first | assumption | rfl) (by first | assumption | rfl) (by rw [hz2]; omega) (by unfold maxLen; omega) ?_)))
  rw [fcells_made]
  have HB0 := Lib.hid (Blk.new w 5 (fcells .u8 (fun _ => 0) (q + 1)))
  have hbl : Below w.heap.size w (w.alloc (.cells (fcells .u8 (fun _ => 0) (q + 1)) 5)) := (Below.refl _ _).alloc (Nat.le_refl _) _
  generalize w.alloc (.cells (fcells .u8 (fun _ => 0) (q + 1)) 5) = w1 at *
  obtain ⟨g, hg⟩ : ∃ g, g = w.heap.size := ⟨_, rfl⟩
  rw [← hg] at HB0 hbl ⊢
  have HG := Lib.hid hg
  clear hg
  have hfz := HB0.out.frozen 0
  have hck := HB0.out.cell 0
  rw [fcells_get _ _ _ _ (by omega)] at hck
  have HB1 := Lib.hid (HB0.out.set_ 0 (.int .u8 ((128 : Nat) : Int)))
  rw [fcells_set] at HB1
  simp only [show ((128 : Nat) : Int) = 128 from rfl] at HB1
  have hb1 := hbl.setCell (p := ⟨g, 0, none⟩) (Nat.le_refl _) (.int .u8 128)
  have HBL := Lib.hid hb1
  clear hb1 hbl
  go_upto_region 3 with fail
  generalize w1.setCell ⟨g, 0, none⟩ (.int .u8 128) = w2 at *
  clear hfz hck HB0
  have hcv : (convert 64 22 (.slice (some ⟨g, 0, none⟩) (q + 1) (q + 1))).run Tryz.prog w2 = .ok (.string (natS N)) w2 := by
    have hN := HND.out
    have hl : ((dl 256 N (nd 256 N)).reverse.map UInt8.ofNat).length = q + 1 := by simp [dl_length, hN]
    have h := run_convert_bytes_back (P := Tryz.prog) w2 64 22 5 ⟨g, 0, none⟩ (q + 1) ((dl 256 N (nd 256 N)).reverse.map UInt8.ofNat) Tryz.underlying64 Tryz.underlying5 Tryz.underlying22 (fun j hj => by
      have hjq : j < q + 1 := by rw [← hl]; exact hj
      rw [add_plain0, HB1.out.cell, fcells_get _ _ _ _ hjq]
      have e := natS_get N j (by rw [natS_size, hN]; exact hjq)
      rw [ba_get] at e
      simp only [natS_def] at e
      rw [List.getElem_toArray] at e
      rw [e, hN, show q + 1 - 1 - j = q - j by omega, HDG.out j (by omega)])
    rw [hl, ← natS_def] at h
    exact h
  go_wp2
  go_ret
  exact ⟨rfl, by rw [← HG.out]; exact HBL.out⟩
theorem rPw_c (n : Nat) (w : World) (hn : n ≤ 200000) : Calls Tryz.prog 51 #[.int .i64 (n : Nat)] w fun e w' => e = .returned (.string (natS (2 ^ n))) ∧ Below w.heap.size w w' := by
  rcases (show n % 8 = 0 ∨ n % 8 = 1 ∨ n % 8 = 2 ∨ n % 8 = 3 ∨ n % 8 = 4 ∨ n % 8 = 5 ∨ n % 8 = 6 ∨ n % 8 = 7 by omega) with h | h | h | h | h | h | h | h
  · exact rPw_0 n w hn h
  · exact rPw_1 n w hn h
  · exact rPw_2 n w hn h
  · exact rPw_3 n w hn h
  · exact rPw_4 n w hn h
  · exact rPw_5 n w hn h
  · exact rPw_6 n w hn h
  · exact rPw_7 n w hn h
end Go.Proofs.YtajcapliokblfaaGreatDoor
namespace Go.Proofs.YtajcapliokblfaaGreatDoor
open Go Go.RowKit Nt
set_option maxRecDepth 100000 in
theorem rMay3_zero (w : World) : Calls Tryz.prog 65 #[.agg #[.bool false, .string ⟨#[]⟩, .int .i64 0]] w fun e w' => e = .returned (.bool true) ∧ Below w.heap.size w w' := by
  go_enter Tryz.func65, Tryz.ntmps65
  go_wp2
  go_ret
  exact ⟨rfl, (Below.refl _ _).alloc (Nat.le_refl _) _⟩
theorem nat_first {n : Nat} (hf : fits n) (h : 0 < (natS n).size) : (natS n)[0].toNat ≠ 0 := ((may_natS n).2 hf).2 h
set_option maxRecDepth 100000 in
theorem rMay3_num (g : Bool) (n : Nat) (x : Int) (w : World) (hf : fits n) (ho : n % 2 = 1) (h1 : -1048576 ≤ x) (h2 : x ≤ 1048576) :
    Calls Tryz.prog 65 #[.agg #[.bool g, .string (natS n), .int .i64 x]] w fun e w' => e = .returned (.bool true) ∧ Below w.heap.size w w' := by
  have hE := natS_full (odd_ne ho)
  have hE2 := natS_full2 (odd_ne ho)
  have hsz := natS_size n
  have hL : nd 256 n ≤ 16384 := hf
  have hp := odd_size ho
  have hl : ((natS n)[nd 256 n - 1]'(by omega)).toNat % 2 = 1 := by
    have := last_odd n hp
    simp only [natS_size] at this
    rw [this, ho]
  have hl2 : (((natS n)[nd 256 n - 1]'(by omega)).toNat : Int) % 2 = 1 := by omega
  have hf0 := nat_first hf hp
  have hf1 : ¬ (((natS n)[0]'hp).toNat : Int) = 0 := by omega
  have hf2 : ((((natS n)[0]'hp).toNat : Int) != 0) = true := by rw [bne_iff_ne]; omega
  have HO := Lib.hid ho
  clear ho
  go_enter Tryz.func65, Tryz.ntmps65
  go_wp2
  go_ret
  exact ⟨rfl, (Below.refl _ _).alloc (Nat.le_refl _) _⟩
set_option maxRecDepth 100000 in
theorem rMay3_bad (g : Bool) (s : ByteArray) (x : Int) (w : World) (hs : s.size ≤ 9223372036854775807) (h : ¬ DOk g s x) :
    Calls Tryz.prog 65 #[.agg #[.bool g, .string s, .int .i64 x]] w fun e w' => e = .returned (.bool false) ∧ Below w.heap.size w w' := by
  rcases dbad h with ⟨rfl, hz⟩ | ⟨hp, hz⟩
  · clear h hs
    have hz2 : g = true ∨ (g = false ∧ (x == 0) = false ∧ ¬ x = 0) := by
      rcases hz with rfl | hz
      · exact Or.inl rfl
      · cases g
        · exact Or.inr ⟨rfl, by simpa using hz, hz⟩
        · exact Or.inl rfl
    clear hz
    rcases hz2 with rfl | ⟨rfl, hx, hx2⟩
    all_goals
      go_enter Tryz.func65, Tryz.ntmps65
      go_wp2
      go_ret
      exact ⟨rfl, (Below.refl _ _).alloc (Nat.le_refl _) _⟩
  · have hE := dFull hp
    have hE2 := dFull2 hp
    clear h
    by_cases hbig : 16384 < s.size
    · have hb' : ¬ (s.size : Int) ≤ 16384 := by omega
      clear hz
      go_enter Tryz.func65, Tryz.ntmps65
      go_wp2
      go_ret
      exact ⟨rfl, (Below.refl _ _).alloc (Nat.le_refl _) _⟩
    · have hb' : (s.size : Int) ≤ 16384 := by omega
      have hb'' : s.size ≤ 16384 := by omega
      by_cases h0 : (s[0]'hp).toNat = 0
      · have h0' : (((s[0]'hp).toNat : Int) != 0) = false := by rw [h0]; rfl
        have H0 := Lib.hid h0
        clear hz h0 hbig
        go_enter Tryz.func65, Tryz.ntmps65
        go_wp2
        go_ret
        exact ⟨rfl, (Below.refl _ _).alloc (Nat.le_refl _) _⟩
      · have h0' : (((s[0]'hp).toNat : Int) != 0) = true := by rw [bne_iff_ne]; omega
        have hm : May s := ⟨hb'', fun _ => h0⟩
        rcases hz with hz | ⟨hz, hm' | ⟨_, hx⟩⟩
        · have hl2 : ((s[s.size - 1]'(by omega)).toNat : Int) % 2 = 0 := by omega
          have H0 := Lib.hid h0
          clear hm h0 hz
          go_enter Tryz.func65, Tryz.ntmps65
          go_wp2
          go_ret
          exact ⟨rfl, (Below.refl _ _).alloc (Nat.le_refl _) _⟩
        · exact absurd hm hm'
        · have hl2 : ((s[s.size - 1]'(by omega)).toNat : Int) % 2 = 1 := by omega
          have H0 := Lib.hid h0
          clear hm h0 hz
          rcases hx with hx | hx
          · have hx' : ¬ -1048576 ≤ x := by omega
            go_enter Tryz.func65, Tryz.ntmps65
            go_wp2
            go_ret
            exact ⟨rfl, (Below.refl _ _).alloc (Nat.le_refl _) _⟩
          · have hx' : ¬ x ≤ 1048576 := by omega
            have hx'' : -1048576 ≤ x := by omega
            go_enter Tryz.func65, Tryz.ntmps65
            go_wp2
            go_ret
            exact ⟨congrArg (fun b => Ending.returned (.bool b)) (decide_eq_false (by omega)), (Below.refl _ _).alloc (Nat.le_refl _) _⟩
end Go.Proofs.YtajcapliokblfaaGreatDoor
namespace Go.Proofs.YtajcapliokblfaaGreatDoor
open Go Go.RowKit Nt
theorem Own.take {w : World} {B : Nat} {T : TypeId} {k : IntKind} {A : Option Addr} {L c : Nat} {l : List Nat} (h : Own w B T k (.slice A L c) l) {m : Nat} (hm : m ≤ l.length) : Own w B T k (.slice A m c) (l.take m) := by
  have hl : (l.take m).length = m := by rw [List.length_take]; omega
  unfold Own
  rw [hl]
  refine ⟨by simp; omega, ?_⟩
  rcases h.2 with ⟨e, h0⟩ | ⟨g, cap, cur, e, hB, hh, hn, hmx, hs, ht⟩
  · injection e with e1 e2 e3
    refine Or.inl ⟨?_, by omega⟩
    rw [e1, e3, show m = 0 by omega]
  · injection e with e1 e2 e3
    refine Or.inr ⟨g, cap, cur, by rw [e1, e3], hB, hh, by omega, hmx, hs, ?_⟩
    rw [Nat.mul_one] at ht ⊢
    rw [List.map_take, ← ht, List.take_take, Nat.min_eq_left hm]
end Go.Proofs.YtajcapliokblfaaGreatDoor
namespace Go.Proofs.YtajcapliokblfaaGreatDoor
open Go Go.RowKit Nt
def lowN (n : Nat) : Nat := if h : n = 0 ∨ n % 2 = 1 then 0 else lowN (n / 2) + 1
termination_by n
decreasing_by omega
def odN (n : Nat) : Nat := n / 2 ^ lowN n
structure Dy where
  g : Bool
  n : Nat
  x : Int
def Dy.v (d : Dy) : Value := .agg #[.bool d.g, .string (natS d.n), .int .i64 d.x]
def Dy.zero : Dy := ⟨false, 0, 0⟩
def Dy.Num (d : Dy) : Prop := fits d.n ∧ d.n % 2 = 1 ∧ -1048576 ≤ d.x ∧ d.x ≤ 1048576
def Dy.Ok (d : Dy) : Prop := d = Dy.zero ∨ d.Num
theorem Dy.zero_v : Dy.zero.v = .agg #[.bool false, .string ⟨#[]⟩, .int .i64 0] := by unfold Dy.v Dy.zero; rw [natS_zero]
def mkOk3 (n : Nat) (x : Int) : Prop := n = 0 ∨ (fits (odN n) ∧ -1048576 ≤ x + lowN n ∧ x + lowN n ≤ 1048576)
instance (n : Nat) (x : Int) : Decidable (mkOk3 n x) := by unfold mkOk3 fits; exact inferInstance
@[irreducible] def mkD (g : Bool) (n : Nat) (x : Int) : Dy := if n ≠ 0 ∧ mkOk3 n x then ⟨g, odN n, x + lowN n⟩ else Dy.zero
@[irreducible] def mkE (n : Nat) (x : Int) : Int := if mkOk3 n x then 0 else 4
theorem mkD_zero (g : Bool) (x : Int) : mkD g 0 x = Dy.zero := by unfold mkD; rw [if_neg (fun c => c.1 rfl)]
theorem mkE_zero (x : Int) : mkE 0 x = 0 := by unfold mkE; exact if_pos (Or.inl rfl)
theorem mkD_ok {g : Bool} {n : Nat} {x : Int} (h0 : n ≠ 0) (h : mkOk3 n x) : mkD g n x = ⟨g, odN n, x + lowN n⟩ := by unfold mkD; rw [if_pos ⟨h0, h⟩]
theorem mkE_ok {n : Nat} {x : Int} (h : mkOk3 n x) : mkE n x = 0 := by unfold mkE; rw [if_pos h]
theorem mkD_no {g : Bool} {n : Nat} {x : Int} (h : ¬ mkOk3 n x) : mkD g n x = Dy.zero := by unfold mkD; rw [if_neg (fun c => h c.2)]
theorem mkE_no {n : Nat} {x : Int} (h : ¬ mkOk3 n x) : mkE n x = 4 := by unfold mkE; rw [if_neg h]
end Go.Proofs.YtajcapliokblfaaGreatDoor
namespace Go.Proofs.YtajcapliokblfaaGreatDoor
open Go Go.RowKit Nt
def DRow (w : World) (A : Option Addr) (n L : Nat) : Prop := ∀ j, j < L → ∃ g, A = some ⟨g, 0, none⟩ ∧ g < w.heap.size ∧ w.cell? ⟨g, j, none⟩ = some (.int .i64 (dgt 256 n j : Nat))
end Go.Proofs.YtajcapliokblfaaGreatDoor
namespace Go.Proofs.YtajcapliokblfaaGreatDoor
open Go Go.RowKit Nt
def MkPost (g : Bool) (n : Nat) (x : Int) (w : World) (e : Ending) (w' : World) : Prop := e = .returned (.tuple #[(mkD g n x).v, .int .i64 (mkE n x)]) ∧ Below w.heap.size w w'
theorem MkPost.no {g : Bool} {n : Nat} {x : Int} (h : ¬ mkOk3 n x) {w : World} {e : Ending} {w' : World} (he : e = .returned (.tuple #[.agg #[.bool false, .string ⟨#[]⟩, .int .i64 0], .int .i64 4])) (hb : Below w.heap.size w w') : MkPost g n x w e w' := by
  unfold MkPost
  rw [mkD_no h, mkE_no h, Dy.zero_v]
  exact ⟨he, hb⟩
theorem MkPost.zero {g : Bool} {x : Int} {w : World} {e : Ending} {w' : World} (he : e = .returned (.tuple #[.agg #[.bool false, .string ⟨#[]⟩, .int .i64 0], .int .i64 0])) (hb : Below w.heap.size w w') : MkPost g 0 x w e w' := by
  unfold MkPost
  rw [mkD_zero, mkE_zero, Dy.zero_v]
  exact ⟨he, hb⟩
theorem MkPost.ok {g : Bool} {n : Nat} {x : Int} (h0 : n ≠ 0) (h : mkOk3 n x) {w : World} {e : Ending} {w' : World} (he : e = .returned (.tuple #[.agg #[.bool g, .string (natS (odN n)), .int .i64 (x + lowN n)], .int .i64 0])) (hb : Below w.heap.size w w') : MkPost g n x w e w' := by
  unfold MkPost
  rw [mkD_ok h0 h, mkE_ok h]
  exact ⟨he, hb⟩
end Go.Proofs.YtajcapliokblfaaGreatDoor
namespace Go.Proofs.YtajcapliokblfaaGreatDoor.Bt.Ff
open Ieee
def rung (x : Nat) : Nat := x % 9223372036854775808
def sgn (x : Nat) : Bool := x / 9223372036854775808 % 2 == 1
def isn (x : Nat) : Prop := 9218868437227405312 < rung x
instance (x : Nat) : Decidable (isn x) := by unfold isn; exact inferInstance
def srung (x : Nat) : Int := if sgn x then -(rung x : Int) else (rung x : Int)
def mag (r : Nat) : Nat := if r < 4503599627370496 then r else (4503599627370496 + r % 4503599627370496) * 2 ^ (r / 4503599627370496 - 1)
theorem sw : double.signWeight = 9223372036854775808 := by decide
theorem bin : double.binade = 4503599627370496 := by decide
theorem infr : double.infRung = 9218868437227405312 := by decide
theorem lp : double.leastPlace = -1074 := by decide
theorem read_eq (x : Nat) : double.read x =
    if rung x < 4503599627370496 then .number (sgn x) (rung x) (-1074)
    else if rung x < 9218868437227405312 then .number (sgn x) (4503599627370496 + rung x % 4503599627370496) (-1074 + ((rung x / 4503599627370496 - 1 : Nat) : Int))
    else if rung x = 9218868437227405312 then .infinity (sgn x) else .nan (sgn x) (rung x - 9218868437227405312) := by
  unfold Format.read
  rw [sw, bin, infr, lp]
  rfl
theorem mag_small {r : Nat} (h : r < 4503599627370496) : mag r = r := by unfold mag; rw [if_pos h]
theorem mag_big {r : Nat} (h : ¬ r < 4503599627370496) : mag r = (4503599627370496 + r % 4503599627370496) * 2 ^ (r / 4503599627370496 - 1) := by unfold mag; rw [if_neg h]
theorem mag_step (r : Nat) : mag r < mag (r + 1) := by
  by_cases h : r < 4503599627370496
  · by_cases h2 : r + 1 < 4503599627370496
    · rw [mag_small h, mag_small h2]; omega
    · rw [mag_small h, mag_big h2]
      have e : r + 1 = 4503599627370496 := by omega
      have q : (4503599627370496 + 4503599627370496 % 4503599627370496) * 2 ^ (4503599627370496 / 4503599627370496 - 1) = 4503599627370496 := by simp
      rw [e, q]; omega
  · have h2 : ¬ r + 1 < 4503599627370496 := by omega
    rw [mag_big h, mag_big h2]
    by_cases hm : r % 4503599627370496 = 4503599627370495
    · have e1 : (r + 1) % 4503599627370496 = 0 := by omega
      have e2 : (r + 1) / 4503599627370496 - 1 = (r / 4503599627370496 - 1) + 1 := by omega
      rw [e1, e2, hm, Nat.pow_succ]
      have hp : 0 < 2 ^ (r / 4503599627370496 - 1) := Nat.two_pow_pos _
      generalize 2 ^ (r / 4503599627370496 - 1) = p at hp
      omega
    · have e1 : (r + 1) % 4503599627370496 = r % 4503599627370496 + 1 := by omega
      have e2 : (r + 1) / 4503599627370496 = r / 4503599627370496 := by omega
      rw [e1, e2]
      exact Nat.mul_lt_mul_of_pos_right (by omega) (Nat.two_pow_pos _)
theorem mag_lt {r s : Nat} (h : r < s) : mag r < mag s := by
  obtain ⟨k, rfl⟩ : ∃ k, s = r + 1 + k := ⟨s - (r + 1), by omega⟩
  clear h
  induction k with
  | zero => exact mag_step r
  | succ k ih => exact Nat.lt_trans ih (mag_step _)
theorem mag_lt_iff {r s : Nat} : mag r < mag s ↔ r < s := by
  constructor
  · intro h
    by_cases c : r < s
    · exact c
    · rcases Nat.lt_or_eq_of_le (Nat.le_of_not_lt c) with c | c
      · have := mag_lt c; omega
      · subst c; omega
  · exact mag_lt
theorem mag_zero : mag 0 = 0 := rfl
def sv (x : Nat) : Int := if sgn x then -(mag (rung x) : Int) else (mag (rung x) : Int)
theorem sv_lt {x y : Nat} : sv x < sv y ↔ srung x < srung y := by
  have h1 : mag (rung x) < mag (rung y) ↔ rung x < rung y := mag_lt_iff
  have h2 : mag (rung y) < mag (rung x) ↔ rung y < rung x := mag_lt_iff
  have h3 : 0 < mag (rung x) ↔ 0 < rung x := by have := @mag_lt_iff 0 (rung x); rwa [mag_zero] at this
  have h4 : 0 < mag (rung y) ↔ 0 < rung y := by have := @mag_lt_iff 0 (rung y); rwa [mag_zero] at this
  unfold sv srung
  split <;> split <;> omega
theorem compare_congr {a b c d : Int} (h : a < b ↔ c < d) (h' : b < a ↔ d < c) : compare a b = compare c d := by
  simp only [compare, compareOfLessAndEq]
  by_cases e : a < b
  · rw [if_pos e, if_pos (h.1 e)]
  · rw [if_neg e, if_neg (fun x => e (h.2 x))]
    by_cases f : a = b
    · rw [if_pos f, if_pos (by omega)]
    · rw [if_neg f, if_neg (by omega)]
theorem signed_eq (s : Bool) (m u : Nat) : signed s m u = if s then -((m * 2 ^ u : Nat) : Int) else ((m * 2 ^ u : Nat) : Int) := by
  unfold signed; rw [Nat.shiftLeft_eq]
theorem signed_scale (s : Bool) (m u k : Nat) : signed s m u * ((2 ^ k : Nat) : Int) = signed s m (u + k) := by
  rw [signed_eq, signed_eq, Nat.pow_add]
  have : (m * (2 ^ u * 2 ^ k)) = (m * 2 ^ u) * 2 ^ k := by rw [Nat.mul_assoc]
  rw [this]
  split
  · rw [Int.neg_mul]; rfl
  · rfl
theorem order_num (s t : Bool) (m n : Nat) (i j : Nat) :
    Datum.order (.number s m (-1074 + (i : Int))) (.number t n (-1074 + (j : Int))) = some (compare (signed s m i) (signed t n j)) := by
  simp only [Datum.order]
  congr 1
  obtain ⟨b, hb, h1, h2⟩ : ∃ b : Nat, min (-1074 + (i : Int)) (-1074 + (j : Int)) = -1074 + (b : Int) ∧ b ≤ i ∧ b ≤ j := by
    by_cases h : i ≤ j
    · exact ⟨i, by omega, by omega, h⟩
    · exact ⟨j, by omega, by omega, by omega⟩
  rw [hb]
  have e1 : (-1074 + (i : Int) - (-1074 + (b : Int))).toNat = i - b := by omega
  have e2 : (-1074 + (j : Int) - (-1074 + (b : Int))).toNat = j - b := by omega
  rw [e1, e2]
  have f1 := signed_scale s m (i - b) b
  have f2 := signed_scale t n (j - b) b
  rw [Nat.sub_add_cancel h1] at f1
  rw [Nat.sub_add_cancel h2] at f2
  rw [← f1, ← f2]
  have hp : (0 : Int) < ((2 ^ b : Nat) : Int) := by have := Nat.two_pow_pos b; omega
  apply compare_congr
  · exact (Int.mul_lt_mul_right hp).symm
  · exact (Int.mul_lt_mul_right hp).symm
theorem read_fin {x : Nat} (h : rung x < 9218868437227405312) : ∃ m i : Nat, double.read x = .number (sgn x) m (-1074 + (i : Int)) ∧ m * 2 ^ i = mag (rung x) := by
  rw [read_eq]
  by_cases c : rung x < 4503599627370496
  · rw [if_pos c]; exact ⟨rung x, 0, rfl, by rw [mag_small c]; simp⟩
  · rw [if_neg c, if_pos h]; exact ⟨_, _, rfl, by rw [mag_big c]⟩
theorem read_inf {x : Nat} (h : rung x = 9218868437227405312) : double.read x = .infinity (sgn x) := by
  rw [read_eq, if_neg (by omega), if_neg (by omega), if_pos h]
theorem read_nan {x : Nat} (h : isn x) : double.read x = .nan (sgn x) (rung x - 9218868437227405312) := by
  unfold isn at h
  rw [read_eq, if_neg (by omega), if_neg (by omega), if_neg (by omega)]
theorem signed_sv {x m i : Nat} (h : m * 2 ^ i = mag (rung x)) : signed (sgn x) m i = sv x := by
  rw [signed_eq, h]; rfl
theorem order_eq (x y : Nat) : double.order x y = if isn x ∨ isn y then none else some (compare (srung x) (srung y)) := by
  unfold Format.order
  by_cases hx : isn x
  · rw [if_pos (Or.inl hx), read_nan hx]; rfl
  · by_cases hy : isn y
    · rw [if_pos (Or.inr hy), read_nan hy]; cases double.read x <;> rfl
    · rw [if_neg (fun h => h.elim hx hy)]
      have lx : rung x ≤ 9218868437227405312 := by unfold isn at hx; omega
      have ly : rung y ≤ 9218868437227405312 := by unfold isn at hy; omega
      rcases Nat.lt_or_eq_of_le lx with lx | lx <;> rcases Nat.lt_or_eq_of_le ly with ly | ly
      · obtain ⟨m, i, hm, em⟩ := read_fin lx
        obtain ⟨n, j, hn, en⟩ := read_fin ly
        rw [hm, hn, order_num, signed_sv em, signed_sv en]
        exact congrArg some (compare_congr sv_lt sv_lt)
      · obtain ⟨m, i, hm, em⟩ := read_fin lx
        rw [hm, read_inf ly]
        simp only [Datum.order, srung, ly]
        cases sgn y <;> simp only [if_true, if_false, Bool.false_eq_true] <;> congr 1 <;> symm
        · rw [show compare (if sgn x = true then -(rung x : Int) else (rung x : Int)) ((9218868437227405312 : Nat) : Int) = compare (0 : Int) 1 from compare_congr (by split <;> omega) (by split <;> omega)]; rfl
        · rw [show compare (if sgn x = true then -(rung x : Int) else (rung x : Int)) (-((9218868437227405312 : Nat) : Int)) = compare (1 : Int) 0 from compare_congr (by split <;> omega) (by split <;> omega)]; rfl
      · obtain ⟨n, j, hn, en⟩ := read_fin ly
        rw [hn, read_inf lx]
        simp only [Datum.order, srung, lx]
        cases sgn x <;> simp only [if_true, if_false, Bool.false_eq_true] <;> congr 1 <;> symm
        · rw [show compare ((9218868437227405312 : Nat) : Int) (if sgn y = true then -(rung y : Int) else (rung y : Int)) = compare (1 : Int) 0 from compare_congr (by split <;> omega) (by split <;> omega)]; rfl
        · rw [show compare (-((9218868437227405312 : Nat) : Int)) (if sgn y = true then -(rung y : Int) else (rung y : Int)) = compare (0 : Int) 1 from compare_congr (by split <;> omega) (by split <;> omega)]; rfl
      · rw [read_inf lx, read_inf ly]
        simp only [Datum.order, srung, lx, ly]
        cases sgn x <;> cases sgn y <;> decide
end Go.Proofs.YtajcapliokblfaaGreatDoor.Bt.Ff
namespace Go.Proofs.YtajcapliokblfaaGreatDoor.Bt
open Go Ff
theorem ret_int {k : IntKind} {a b : Int} (h : a = b) : Ending.returned (.int k a) = .returned (.int k b) := by rw [h]
@[irreducible] def infB (x : Nat) : Bool := rung x == 9218868437227405312
theorem infB_true (x : Nat) : infB x = true ↔ rung x = 9218868437227405312 := by unfold infB; exact beq_iff_eq
@[local go_sem] theorem eq_inf (x : Nat) : ((rung x : Int) == 9218868437227405312) = infB x := by
  rw [Bool.eq_iff_iff, beq_iff_eq, infB_true]; omega
@[irreducible] def subB (x : Nat) : Bool := decide (rung x < 4503599627370496)
theorem subB_true (x : Nat) : subB x = true ↔ rung x < 4503599627370496 := by unfold subB; exact decide_eq_true_iff
@[local go_sem] theorem lt_sub (x : Nat) : decide ((rung x : Int) < 4503599627370496) = subB x := by
  rw [Bool.eq_iff_iff, decide_eq_true_iff, subB_true]; omega
end Go.Proofs.YtajcapliokblfaaGreatDoor.Bt
namespace Go.Proofs.YtajcapliokblfaaGreatDoor.Bt
open Go Go.RowKit Ff
@[irreducible] def finB (x : Nat) : Bool := decide (rung x < 9218868437227405312)
@[irreducible] def topped (b : Nat) : Nat := 9223372036854775808 + b
@[irreducible] def wf (neg : Bool) (r : Nat) : Nat := if neg then topped r else r
theorem sub_self (x : Nat) (h : rung x < 9218868437227405312) : floatBits .sub .f64 x x = some 0 := by
  show Ieee.double.sub x x = some 0
  obtain ⟨m, i, hm, _⟩ := read_fin h
  unfold Ieee.Format.sub
  rw [hm]
  simp only [Ieee.Datum.opposite, Ieee.Datum.sum, Int.min_self, Int.sub_self]
  have e : Ieee.signed (sgn x) m (Int.toNat 0) + Ieee.signed (!sgn x) m (Int.toNat 0) = 0 := by
    rw [signed_eq, signed_eq]; cases sgn x <;> simp <;> omega
  rw [e]
  simp only [if_true, Bool.and_not_self]
  rfl
end Go.Proofs.YtajcapliokblfaaGreatDoor.Bt
namespace Go.Proofs.YtajcapliokblfaaGreatDoor.Bt
open Go Go.RowKit Ff
def Tabs (w : World) : Prop := TabAt 4 Lib.deBruijn64tab w ∧ 4 < w.heap.size
theorem Tabs.below {w w' : World} (h : Tabs w) (hb : Below w.heap.size w w') : Tabs w' :=
  ⟨fun j hj => by rw [hb.cell (p := ⟨4, j, none⟩) h.2]; exact h.1 j hj, Nat.lt_of_lt_of_le h.2 hb.size⟩
@[irreducible] def pm (x : Nat) : Nat := if rung x < 4503599627370496 then rung x else 4503599627370496 + rung x % 4503599627370496
@[irreducible] def pex (x : Nat) : Int := if rung x < 4503599627370496 then -1074 else -1074 + ((rung x / 4503599627370496 - 1 : Nat) : Int)
end Go.Proofs.YtajcapliokblfaaGreatDoor.Bt
namespace Go.Proofs.YtajcapliokblfaaGreatDoor.Bt
open Go Go.RowKit Ff
def mkOk (q : Nat) (e : Int) : Prop := Lib.bitLen q ≤ 53 ∧ -1074 ≤ e ∧ e + Lib.bitLen q - 1 ≤ 1023
instance (q : Nat) (e : Int) : Decidable (mkOk q e) := by unfold mkOk; exact inferInstance
theorem mul_lt_pow {q B k : Nat} (h : q < 2 ^ B) : q * 2 ^ k < 2 ^ (B + k) := by
  rw [Nat.pow_add]; exact Nat.mul_lt_mul_of_pos_right h (Nat.two_pow_pos k)
end Go.Proofs.YtajcapliokblfaaGreatDoor.Bt
namespace Go.Proofs.YtajcapliokblfaaGreatDoor.Bt
open Go Go.RowKit Ff
@[irreducible] def shl (q k : Nat) : Nat := q * 2 ^ k
@[irreducible] def shlB (q k : Nat) : Bool := decide (shl q k < 4503599627370496)
theorem shlB_true (q k : Nat) : shlB q k = true ↔ shl q k < 4503599627370496 := by unfold shlB; exact decide_eq_true_iff
@[local go_sem] theorem lt_shl (q k : Nat) : decide ((shl q k : Int) < 4503599627370496) = shlB q k := by
  rw [Bool.eq_iff_iff, decide_eq_true_iff, shlB_true]; omega
end Go.Proofs.YtajcapliokblfaaGreatDoor.Bt
namespace Go.Proofs.YtajcapliokblfaaGreatDoor
open Go Go.RowKit Nt
end Go.Proofs.YtajcapliokblfaaGreatDoor
namespace Go.Proofs.YtajcapliokblfaaGreatDoor
open Go Go.RowKit Nt
structure Dt where
  g : Bool
  s : ByteArray
  x : Int
def Dt.v (t : Dt) : Value := .agg #[.bool t.g, .string t.s, .int .i64 t.x]
def Dt.Ok (t : Dt) : Prop := DOk t.g t.s t.x
theorem Dt.small {t : Dt} (h : t.Ok) : t.s.size ≤ 16384 := by
  rcases h with ⟨h, _⟩ | ⟨n, hf, _, h, _⟩
  · rw [h]; decide
  · rw [h, natS_size]; exact hf
def Dts (w : World) (A : Option Addr) (l : List Dt) : Prop := 0 < l.length → ∃ ad, A = some ad ∧ ad.block < w.heap.size ∧ ∀ j (h : j < l.length), w.cell? (ad.add (j * 3)) = some (.bool l[j].g) ∧ w.cell? ⟨(ad.add (j * 3)).block, (ad.add (j * 3)).off + 1, none⟩ = some (.string l[j].s) ∧ w.cell? ⟨(ad.add (j * 3)).block, (ad.add (j * 3)).off + 2, none⟩ = some (.int .i64 l[j].x)
theorem Dts.below {w w' : World} {A : Option Addr} {l : List Dt} (h : Dts w A l) (hb : Below w.heap.size w w') : Dts w' A l := fun h0 => by
  obtain ⟨ad, e, hl, hc⟩ := h h0
  refine ⟨ad, e, Nat.lt_of_lt_of_le hl hb.size, fun j hj => ?_⟩
  obtain ⟨c1, c2, c3⟩ := hc j hj
  exact ⟨(hb.cell (p := ad.add (j * 3)) (by rw [block_of_add']; exact hl)).trans c1, (hb.cell (p := ⟨(ad.add (j * 3)).block, (ad.add (j * 3)).off + 1, none⟩) (by show (ad.add (j * 3)).block < _; rw [block_of_add']; exact hl)).trans c2, (hb.cell (p := ⟨(ad.add (j * 3)).block, (ad.add (j * 3)).off + 2, none⟩) (by show (ad.add (j * 3)).block < _; rw [block_of_add']; exact hl)).trans c3⟩
end Go.Proofs.YtajcapliokblfaaGreatDoor
namespace Go.Proofs.YtajcapliokblfaaGreatDoor
open Go Go.RowKit Nt
def BoxAt (w : World) (B : Nat) (g : Bool) (s : ByteArray) (x : Int) : Prop := B < w.heap.size ∧ w.cell? ⟨B, 0, none⟩ = some (.bool g) ∧ w.cell? ⟨B, 1, none⟩ = some (.string s) ∧ w.cell? ⟨B, 2, none⟩ = some (.int .i64 x)
theorem BoxAt.step {w w' : World} {B : Nat} {g : Bool} {s : ByteArray} {x : Int} (h : BoxAt w B g s x) (hb : Below w.heap.size w w') : BoxAt w' B g s x := by
  obtain ⟨h0, h1, h2, h3⟩ := h
  exact ⟨Nat.lt_of_lt_of_le h0 hb.size, (hb.cell (p := ⟨B, 0, none⟩) h0).trans h1, (hb.cell (p := ⟨B, 1, none⟩) h0).trans h2, (hb.cell (p := ⟨B, 2, none⟩) h0).trans h3⟩
theorem BoxAt.new (w : World) (g : Bool) (s : ByteArray) (x : Int) (T : TypeId) : BoxAt (w.alloc (.cells #[.bool g, .string s, .int .i64 x] T)) w.heap.size g s x :=
  ⟨by simp, (World.cell?_alloc_at _ _ _ _ rfl).trans rfl, (World.cell?_alloc_at _ _ _ _ rfl).trans rfl, (World.cell?_alloc_at _ _ _ _ rfl).trans rfl⟩
def On1 (w : World) (g : Bool) (s : ByteArray) (x : Int) (wc : World) : Prop := Below w.heap.size w wc ∧ BoxAt wc w.heap.size g s x
theorem On1.step {w : World} {g : Bool} {s : ByteArray} {x : Int} {wc w' : World} (h : On1 w g s x wc) (hb : Below wc.heap.size wc w') : On1 w g s x w' := ⟨below_chain h.1 hb, h.2.step hb⟩
theorem On1.new (w : World) (g : Bool) (s : ByteArray) (x : Int) (T : TypeId) : On1 w g s x (w.alloc (.cells #[.bool g, .string s, .int .i64 x] T)) := ⟨(Below.refl _ _).alloc (Nat.le_refl _) _, BoxAt.new w g s x T⟩
def On2 (w : World) (g : Bool) (s : ByteArray) (x : Int) (B : Nat) (wc : World) : Prop := On1 w g s x wc ∧ BoxAt wc B false s x
theorem On2.step {w : World} {g : Bool} {s : ByteArray} {x : Int} {B : Nat} {wc w' : World} (h : On2 w g s x B wc) (hb : Below wc.heap.size wc w') : On2 w g s x B w' := ⟨h.1.step hb, h.2.step hb⟩
theorem On2.start {w : World} {g : Bool} {s : ByteArray} {x : Int} {w1 : World} {T : TypeId} (h : On1 w g s x w1) : On2 w g s x w1.heap.size ((w1.alloc (.cells #[.bool false, .string s, .int .i64 x] T)).drew) := by
  have e : Below w1.heap.size w1 (w1.alloc (.cells #[.bool false, .string s, .int .i64 x] T)) := (Below.refl _ _).alloc (Nat.le_refl _) _
  exact ⟨h.step e.drew, (BoxAt.new w1 false s x T).step (Below.refl _ _).drew⟩
end Go.Proofs.YtajcapliokblfaaGreatDoor
namespace Go.Proofs.YtajcapliokblfaaGreatDoor
open Go Go.RowKit Nt
def Box3 (w : World) (B : Nat) (a b c : Value) : Prop := Blk w B 26 #[a, b, c]
theorem Box3.facts {w : World} {B : Nat} {a b c : Value} (h : Box3 w B a b c) : B < w.heap.size ∧ w.cell? ⟨B, 0, none⟩ = some a ∧ w.cell? ⟨B, 1, none⟩ = some b ∧ w.cell? ⟨B, 2, none⟩ = some c ∧ w.frozen? ⟨B, 0, none⟩ = false ∧ w.frozen? ⟨B, 1, none⟩ = false ∧ w.frozen? ⟨B, 2, none⟩ = false :=
  ⟨Blk.lt h, (Blk.cell h 0).trans rfl, (Blk.cell h 1).trans rfl, (Blk.cell h 2).trans rfl, Blk.frozen h 0, Blk.frozen h 1, Blk.frozen h 2⟩
theorem Box3.step {w w' : World} {B : Nat} {a b c : Value} (h : Box3 w B a b c) (hb : Below w.heap.size w w') : Box3 w' B a b c := Blk.below h hb (Blk.lt h)
theorem Box3.new (w : World) (a b c : Value) : Box3 (w.alloc (.cells #[a, b, c] 26)) w.heap.size a b c := Blk.new w _ _
theorem Box3.more {w : World} {B : Nat} {a b c : Value} (h : Box3 w B a b c) (o : Obj) : Box3 (w.alloc o) B a b c := Blk.alloc h o
theorem Box3.put {w : World} {B : Nat} {a b c : Value} (h : Box3 w B a b c) (a' b' c' : Value) : Box3 (((w.setCell ⟨B, 0, none⟩ a').setCell ⟨B, 1, none⟩ b').setCell ⟨B, 2, none⟩ c') B a' b' c' := by
  have := ((Blk.set_ h 0 a').set_ 1 b').set_ 2 c'
  unfold Box3
  simpa using this
theorem Box3.far {w : World} {B C : Nat} {a b c : Value} (h : Box3 w B a b c) (hne : B ≠ C) (a' b' c' : Value) : Box3 (((w.setCell ⟨C, 0, none⟩ a').setCell ⟨C, 1, none⟩ b').setCell ⟨C, 2, none⟩ c') B a b c :=
  Blk.far (Blk.far (Blk.far h (p := ⟨C, 0, none⟩) hne a') (p := ⟨C, 1, none⟩) hne b') (p := ⟨C, 2, none⟩) hne c'
theorem below_put {n : Nat} {w W : World} {A : Nat} (hb : Below n w W) (hA : n ≤ A) (a' b' c' : Value) : Below n w (((W.setCell ⟨A, 0, none⟩ a').setCell ⟨A, 1, none⟩ b').setCell ⟨A, 2, none⟩ c') :=
  ((hb.setCell (p := ⟨A, 0, none⟩) hA a').setCell (p := ⟨A, 1, none⟩) hA b').setCell (p := ⟨A, 2, none⟩) hA c'
theorem below_then {a b c : World} (h1 : Below a.heap.size a b) (h2 : Below b.heap.size b c) : Below a.heap.size a c := h1.trans (h2.mono h1.size)
end Go.Proofs.YtajcapliokblfaaGreatDoor
namespace Go.Proofs.YtajcapliokblfaaGreatDoor
open Go Go.RowKit Nt
def TB (w : World) (a b : Dt) (W : World) : Prop := Below w.heap.size w W ∧ Box3 W w.heap.size (.bool a.g) (.string a.s) (.int .i64 a.x) ∧ Box3 W (w.heap.size + 1) (.bool b.g) (.string b.s) (.int .i64 b.x)
theorem TB.start (w : World) (a b : Dt) : TB w a b ((w.alloc (.cells #[.bool a.g, .string a.s, .int .i64 a.x] 26)).alloc (.cells #[.bool b.g, .string b.s, .int .i64 b.x] 26)) := by
  have e : (w.alloc (.cells #[.bool a.g, .string a.s, .int .i64 a.x] 26)).heap.size = w.heap.size + 1 := by simp
  refine ⟨((Below.refl _ _).alloc (Nat.le_refl _) _).alloc (by simp) _, (Box3.new w _ _ _).more _, ?_⟩
  rw [← e]
  exact Box3.new _ _ _ _
theorem TB.step {w : World} {a b : Dt} {W W' : World} (h : TB w a b W) (hb : Below W.heap.size W W') : TB w a b W' := ⟨below_then h.1 hb, h.2.1.step hb, h.2.2.step hb⟩
theorem TB.more {w : World} {a b : Dt} {W : World} (h : TB w a b W) (o : Obj) : TB w a b (W.alloc o) := h.step ((Below.refl _ _).alloc (Nat.le_refl _) _)
theorem TB.drawn {w : World} {a b : Dt} {W : World} (h : TB w a b W) (n : Nat) : TB w a b (W.drewN n) := h.step (below_drewN (Below.refl _ _) n)
theorem TB.drew {w : World} {a b : Dt} {W : World} (h : TB w a b W) : TB w a b W.drew := h.step (Below.refl _ _).drew
def Dy.t (d : Dy) : Dt := ⟨d.g, natS d.n, d.x⟩
theorem Dy.t_ok {d : Dy} (h : d.Num) : d.t.Ok := Or.inr ⟨d.n, h.1, h.2.1, rfl, h.2.2.1, h.2.2.2⟩
end Go.Proofs.YtajcapliokblfaaGreatDoor
namespace Go.Proofs.YtajcapliokblfaaGreatDoor
open Go Go.RowKit Nt
theorem Dy.ok_t {d : Dy} (h : d.Ok) : d.t.Ok := by
  rcases h with rfl | h
  · exact Or.inl ⟨natS_zero, rfl, rfl⟩
  · exact Dy.t_ok h
theorem Dy.small {d : Dy} (h : d.Ok) : (natS d.n).size ≤ 16384 := Dt.small (Dy.ok_t h)
end Go.Proofs.YtajcapliokblfaaGreatDoor
namespace Go.Proofs.YtajcapliokblfaaGreatDoor
open Go Go.RowKit Nt
def OB (w : World) (a : Dt) (W : World) : Prop := Below w.heap.size w W ∧ Box3 W w.heap.size (.bool a.g) (.string a.s) (.int .i64 a.x)
theorem OB.start (w : World) (a : Dt) : OB w a (w.alloc (.cells #[.bool a.g, .string a.s, .int .i64 a.x] 26)) := ⟨(Below.refl _ _).alloc (Nat.le_refl _) _, Box3.new w _ _ _⟩
theorem OB.step {w : World} {a : Dt} {W W' : World} (h : OB w a W) (hb : Below W.heap.size W W') : OB w a W' := ⟨below_then h.1 hb, h.2.step hb⟩
theorem OB.more {w : World} {a : Dt} {W : World} (h : OB w a W) (o : Obj) : OB w a (W.alloc o) := h.step ((Below.refl _ _).alloc (Nat.le_refl _) _)
end Go.Proofs.YtajcapliokblfaaGreatDoor
namespace Go.Proofs.YtajcapliokblfaaGreatDoor
open Go Go.RowKit Nt
def TC (w : World) (a b : Dt) (W : World) : Prop := TB w a b W ∧ Box3 W (w.heap.size + 2) (.bool false) (.string ⟨#[]⟩) (.int .i64 0)
theorem TC.start (w : World) (a b : Dt) : TC w a b (((w.alloc (.cells #[.bool a.g, .string a.s, .int .i64 a.x] 26)).alloc (.cells #[.bool b.g, .string b.s, .int .i64 b.x] 26)).alloc (.cells #[.bool false, .string ⟨#[]⟩, .int .i64 0] 26)) := by
  refine ⟨(TB.start w a b).more _, ?_⟩
  have := Box3.new ((w.alloc (.cells #[.bool a.g, .string a.s, .int .i64 a.x] 26)).alloc (.cells #[.bool b.g, .string b.s, .int .i64 b.x] 26)) (.bool false) (.string ⟨#[]⟩) (.int .i64 0)
  simpa using this
theorem TC.step {w : World} {a b : Dt} {W W' : World} (h : TC w a b W) (hb : Below W.heap.size W W') : TC w a b W' := ⟨h.1.step hb, h.2.step hb⟩
theorem TC.more {w : World} {a b : Dt} {W : World} (h : TC w a b W) (o : Obj) : TC w a b (W.alloc o) := h.step ((Below.refl _ _).alloc (Nat.le_refl _) _)
theorem TC.drawn {w : World} {a b : Dt} {W : World} (h : TC w a b W) (n : Nat) : TC w a b (W.drewN n) := h.step (below_drewN (Below.refl _ _) n)
theorem TC.drew {w : World} {a b : Dt} {W : World} (h : TC w a b W) : TC w a b W.drew := h.step (Below.refl _ _).drew
theorem TC.fin {w : World} {a b : Dt} {W : World} (h : TC w a b W) (x y z : Value) : Below w.heap.size w (((W.setCell ⟨w.heap.size + 2, 0, none⟩ x).setCell ⟨w.heap.size + 2, 1, none⟩ y).setCell ⟨w.heap.size + 2, 2, none⟩ z) := below_put h.1.1 (by omega) x y z
end Go.Proofs.YtajcapliokblfaaGreatDoor
namespace Go.Proofs.YtajcapliokblfaaGreatDoor
open Go Go.RowKit Nt
def TD (w : World) (a b : Dt) (W : World) : Prop := TB w a b W ∧ ∃ x y z, Box3 W (w.heap.size + 2) x y z
theorem TD.step {w : World} {a b : Dt} {W W' : World} (h : TD w a b W) (hb : Below W.heap.size W W') : TD w a b W' := by
  obtain ⟨h1, x, y, z, h2⟩ := h; exact ⟨h1.step hb, x, y, z, h2.step hb⟩
theorem TD.drawn {w : World} {a b : Dt} {W : World} (h : TD w a b W) (n : Nat) : TD w a b (W.drewN n) := h.step (below_drewN (Below.refl _ _) n)
theorem TD.drew {w : World} {a b : Dt} {W : World} (h : TD w a b W) : TD w a b W.drew := h.step (Below.refl _ _).drew
theorem TD.put {w : World} {a b : Dt} {W : World} (h : TD w a b W) (x y z : Value) : TD w a b (((W.setCell ⟨w.heap.size + 2, 0, none⟩ x).setCell ⟨w.heap.size + 2, 1, none⟩ y).setCell ⟨w.heap.size + 2, 2, none⟩ z) := by
  obtain ⟨⟨h1, h2, h3⟩, x', y', z', h4⟩ := h
  exact ⟨⟨below_put h1 (by omega) _ _ _, h2.far (by omega) _ _ _, h3.far (by omega) _ _ _⟩, _, _, _, h4.put _ _ _⟩
theorem TD.res {w : World} {a b : Dt} {W : World} (h : TD w a b W) : w.heap.size + 2 < W.heap.size ∧ (W.cell? ⟨w.heap.size + 2, 0, none⟩).isSome = true ∧ (W.cell? ⟨w.heap.size + 2, 1, none⟩).isSome = true ∧ (W.cell? ⟨w.heap.size + 2, 2, none⟩).isSome = true ∧ W.frozen? ⟨w.heap.size + 2, 0, none⟩ = false ∧ W.frozen? ⟨w.heap.size + 2, 1, none⟩ = false ∧ W.frozen? ⟨w.heap.size + 2, 2, none⟩ = false := by
  obtain ⟨h1, x, y, z, h4⟩ := h
  obtain ⟨r0, r1, r2, r3, r4, r5, r6⟩ := h4.facts
  exact ⟨r0, by rw [r1]; rfl, by rw [r2]; rfl, by rw [r3]; rfl, r4, r5, r6⟩
@[irreducible] def cellAt (W : World) (B i : Nat) : Value := (W.cell? ⟨B, i, none⟩).getD undef
theorem cellAt_eq {W : World} {B i : Nat} {v : Value} (h : W.cell? ⟨B, i, none⟩ = some v) : W.cell? ⟨B, i, none⟩ = some (cellAt W B i) := by unfold cellAt; rw [h]; rfl
theorem TD.cells {w : World} {a b : Dt} {W : World} (h : TD w a b W) : w.heap.size + 2 < W.heap.size ∧ W.cell? ⟨w.heap.size + 2, 0, none⟩ = some (cellAt W (w.heap.size + 2) 0) ∧ W.cell? ⟨w.heap.size + 2, 1, none⟩ = some (cellAt W (w.heap.size + 2) 1) ∧ W.cell? ⟨w.heap.size + 2, 2, none⟩ = some (cellAt W (w.heap.size + 2) 2) ∧ W.frozen? ⟨w.heap.size + 2, 0, none⟩ = false ∧ W.frozen? ⟨w.heap.size + 2, 1, none⟩ = false ∧ W.frozen? ⟨w.heap.size + 2, 2, none⟩ = false := by
  obtain ⟨h1, x, y, z, h4⟩ := h
  obtain ⟨r0, r1, r2, r3, r4, r5, r6⟩ := h4.facts
  exact ⟨r0, cellAt_eq r1, cellAt_eq r2, cellAt_eq r3, r4, r5, r6⟩
end Go.Proofs.YtajcapliokblfaaGreatDoor
namespace Go.Proofs.YtajcapliokblfaaGreatDoor
open Go Go.RowKit Nt
end Go.Proofs.YtajcapliokblfaaGreatDoor
namespace Go.Proofs.YtajcapliokblfaaGreatDoor
open Go Go.RowKit Nt
end Go.Proofs.YtajcapliokblfaaGreatDoor
namespace Go.Proofs.YtajcapliokblfaaGreatDoor
open Go Go.RowKit Nt
def OC (w : World) (a : Dt) (W : World) : Prop := OB w a W ∧ Box3 W (w.heap.size + 1) (.bool false) (.string ⟨#[]⟩) (.int .i64 0)
theorem OC.start (w : World) (a : Dt) : OC w a ((w.alloc (.cells #[.bool a.g, .string a.s, .int .i64 a.x] 26)).alloc (.cells #[.bool false, .string ⟨#[]⟩, .int .i64 0] 26)) := by
  refine ⟨(OB.start w a).more _, ?_⟩
  have := Box3.new (w.alloc (.cells #[.bool a.g, .string a.s, .int .i64 a.x] 26)) (.bool false) (.string ⟨#[]⟩) (.int .i64 0)
  simpa using this
theorem OC.step {w : World} {a : Dt} {W W' : World} (h : OC w a W) (hb : Below W.heap.size W W') : OC w a W' := ⟨h.1.step hb, h.2.step hb⟩
theorem OC.more {w : World} {a : Dt} {W : World} (h : OC w a W) (o : Obj) : OC w a (W.alloc o) := h.step ((Below.refl _ _).alloc (Nat.le_refl _) _)
theorem OC.fin {w : World} {a : Dt} {W : World} (h : OC w a W) (x y z : Value) : Below w.heap.size w (((W.setCell ⟨w.heap.size + 1, 0, none⟩ x).setCell ⟨w.heap.size + 1, 1, none⟩ y).setCell ⟨w.heap.size + 1, 2, none⟩ z) := below_put h.1.1 (by omega) x y z
end Go.Proofs.YtajcapliokblfaaGreatDoor
namespace Go.Proofs.YtajcapliokblfaaGreatDoor
open Go Go.RowKit Nt
theorem DRow.below {w w' : World} {A : Option Addr} {n L : Nat} (h : DRow w A n L) (hb : Below w.heap.size w w') : DRow w' A n L := fun j hj => by
  obtain ⟨g, e, hg, hc⟩ := h j hj
  exact ⟨g, e, Nat.lt_of_lt_of_le hg hb.size, (hb.cell (p := ⟨g, j, none⟩) hg).trans hc⟩
end Go.Proofs.YtajcapliokblfaaGreatDoor
set_option linter.unusedSectionVars false
namespace Go.Proofs.YtajcapliokblfaaGreatDoor
open Go Go.RowKit Nt
theorem natS_inj {m n : Nat} : natS m = natS n ↔ m = n := by
  constructor
  · intro h
    have : (natS m).toList = (natS n).toList := by rw [h]
    exact (natS_list_eq m n).1 this
  · rintro rfl; rfl
section
variable [Env]
end
def Dy.one : Dy := ⟨false, 1, 0⟩
end Go.Proofs.YtajcapliokblfaaGreatDoor
namespace Go.Proofs.YtajcapliokblfaaGreatDoor
open Go Go.RowKit Nt
def rk1 (q : Int) : Nat := (max (-q) 0).toNat
def rk2 (q : Int) : Nat := (max q 0).toNat
end Go.Proofs.YtajcapliokblfaaGreatDoor
namespace Go.Proofs.YtajcapliokblfaaGreatDoor
open Go Go.RowKit Nt
def RB (w : World) (c : C3) (C : Nat) (f : C3) (A : Option Addr) (n : Nat) (A' : Option Addr) (d : Nat) (V : World) : Prop := Below w.heap.size w V ∧ Bx3 V w.heap.size c ∧ Bx3 V C f ∧ Row V V.heap.size A n (nd W n) ∧ Row V V.heap.size A' d (nd W d)
theorem RB.step {w : World} {c : C3} {C : Nat} {f : C3} {A : Option Addr} {n : Nat} {A' : Option Addr} {d : Nat} {V V' : World} (h : RB w c C f A n A' d V) (hb : Below V.heap.size V V') : RB w c C f A n A' d V' :=
  ⟨below_chain h.1 hb, h.2.1.step hb, h.2.2.1.step hb, (h.2.2.2.1.below hb).more hb.size, (h.2.2.2.2.below hb).more hb.size⟩
theorem RB.drew {w : World} {c : C3} {C : Nat} {f : C3} {A : Option Addr} {n : Nat} {A' : Option Addr} {d : Nat} {V : World} (h : RB w c C f A n A' d V) : RB w c C f A n A' d V.drew := h.step (Below.refl _ _).drew
theorem RB.drawn {w : World} {c : C3} {C : Nat} {f : C3} {A : Option Addr} {n : Nat} {A' : Option Addr} {d : Nat} {V : World} (h : RB w c C f A n A' d V) (k : Nat) : RB w c C f A n A' d (V.drewN k) := h.step (below_drewN (Below.refl _ _) k)
theorem RB.of {w : World} {c : C3} {V : World} {A : Option Addr} {n : Nat} {A' : Option Addr} {d : Nat} (h : BL w [c] V) (x y z : Value) (T : TypeId) (h1 : Row V V.heap.size A n (nd W n)) (h2 : Row V V.heap.size A' d (nd W d)) : RB w c V.heap.size (x, y, z) A n A' d (V.alloc (.cells #[x, y, z] T)) := by
  have hb : Below V.heap.size V (V.alloc (.cells #[x, y, z] T)) := (Below.refl _ _).alloc (Nat.le_refl _) _
  exact ⟨below_chain h.1 hb, (h.2 0 c rfl).step hb, Bx3.new V x y z T, (h1.below hb).more hb.size, (h2.below hb).more hb.size⟩
theorem RB.low {w : World} {c : C3} {C : Nat} {f : C3} {A : Option Addr} {n : Nat} {A' : Option Addr} {d : Nat} {V : World} (h : RB w c C f A n A' d V) : Below w.heap.size w V := h.1
theorem RB.b0 {w : World} {c : C3} {C : Nat} {f : C3} {A : Option Addr} {n : Nat} {A' : Option Addr} {d : Nat} {V : World} (h : RB w c C f A n A' d V) : Bx3 V w.heap.size c := h.2.1
theorem RB.b1 {w : World} {c : C3} {C : Nat} {f : C3} {A : Option Addr} {n : Nat} {A' : Option Addr} {d : Nat} {V : World} (h : RB w c C f A n A' d V) : Bx3 V C f := h.2.2.1
theorem RB.r0 {w : World} {c : C3} {C : Nat} {f : C3} {A : Option Addr} {n : Nat} {A' : Option Addr} {d : Nat} {V : World} (h : RB w c C f A n A' d V) : Row V V.heap.size A n (nd W n) := h.2.2.2.1
theorem RB.r1 {w : World} {c : C3} {C : Nat} {f : C3} {A : Option Addr} {n : Nat} {A' : Option Addr} {d : Nat} {V : World} (h : RB w c C f A n A' d V) : Row V V.heap.size A' d (nd W d) := h.2.2.2.2
def SD (w : World) (c : C3) (C : Nat) (f : C3) (A : Option Addr) (n : Nat) (A' : Option Addr) (d : Nat) (B : Option Addr) (L : Nat) (B' : Option Addr) (Y : Nat) (V : World) : Prop := RB w c C f A n A' d V ∧ Row V V.heap.size B L (nd W L) ∧ Row V V.heap.size B' Y (nd W Y)
theorem SD.step {w : World} {c : C3} {C : Nat} {f : C3} {A : Option Addr} {n : Nat} {A' : Option Addr} {d : Nat} {B : Option Addr} {L : Nat} {B' : Option Addr} {Y : Nat} {V V' : World} (h : SD w c C f A n A' d B L B' Y V) (hb : Below V.heap.size V V') : SD w c C f A n A' d B L B' Y V' :=
  ⟨h.1.step hb, (h.2.1.below hb).more hb.size, (h.2.2.below hb).more hb.size⟩
theorem SD.drew {w : World} {c : C3} {C : Nat} {f : C3} {A : Option Addr} {n : Nat} {A' : Option Addr} {d : Nat} {B : Option Addr} {L : Nat} {B' : Option Addr} {Y : Nat} {V : World} (h : SD w c C f A n A' d B L B' Y V) : SD w c C f A n A' d B L B' Y V.drew := h.step (Below.refl _ _).drew
theorem SD.drawn {w : World} {c : C3} {C : Nat} {f : C3} {A : Option Addr} {n : Nat} {A' : Option Addr} {d : Nat} {B : Option Addr} {L : Nat} {B' : Option Addr} {Y : Nat} {V : World} (h : SD w c C f A n A' d B L B' Y V) (k : Nat) : SD w c C f A n A' d B L B' Y (V.drewN k) := h.step (below_drewN (Below.refl _ _) k)
theorem SD.low {w : World} {c : C3} {C : Nat} {f : C3} {A : Option Addr} {n : Nat} {A' : Option Addr} {d : Nat} {B : Option Addr} {L : Nat} {B' : Option Addr} {Y : Nat} {V : World} (h : SD w c C f A n A' d B L B' Y V) : Below w.heap.size w V := h.1.1
theorem SD.l {w : World} {c : C3} {C : Nat} {f : C3} {A : Option Addr} {n : Nat} {A' : Option Addr} {d : Nat} {B : Option Addr} {L : Nat} {B' : Option Addr} {Y : Nat} {V : World} (h : SD w c C f A n A' d B L B' Y V) : Row V V.heap.size B L (nd W L) := h.2.1
theorem SD.y {w : World} {c : C3} {C : Nat} {f : C3} {A : Option Addr} {n : Nat} {A' : Option Addr} {d : Nat} {B : Option Addr} {L : Nat} {B' : Option Addr} {Y : Nat} {V : World} (h : SD w c C f A n A' d B L B' Y V) : Row V V.heap.size B' Y (nd W Y) := h.2.2
end Go.Proofs.YtajcapliokblfaaGreatDoor
namespace Go.Proofs.YtajcapliokblfaaGreatDoor.Bt
open Go Go.RowKit Ff
@[irreducible] def place (x : Nat) : Nat := if isn x then 18437736874454810626 else if sgn x then 9218868437227405312 - rung x else 9218868437227405313 + rung x
end Go.Proofs.YtajcapliokblfaaGreatDoor.Bt
namespace Go.Proofs.YtajcapliokblfaaGreatDoor.Bt
open Go Go.RowKit Ff
@[irreducible] def fltB (x y : Nat) : Bool := decide (¬ isn x ∧ ¬ isn y ∧ srung x < srung y)
@[irreducible] def feqB (x y : Nat) : Bool := decide (¬ isn x ∧ ¬ isn y ∧ srung x = srung y)
theorem ord_cmp (x y : Nat) : FloatKind.f64.format.order x y = if isn x ∨ isn y then none else some (compare (srung x) (srung y)) := order_eq x y
theorem cmp_lt (a b : Int) : compare a b = Ordering.lt ↔ a < b := by
  simp only [compare, compareOfLessAndEq]; by_cases h : a < b <;> by_cases h' : a = b <;> simp [h, h']
theorem cmp_eq (a b : Int) : compare a b = Ordering.eq ↔ a = b := by
  simp only [compare, compareOfLessAndEq]; by_cases h : a < b <;> by_cases h' : a = b <;> simp [h, h'] <;> omega
theorem cmp_gt (a b : Int) : compare a b = Ordering.gt ↔ b < a := by
  simp only [compare, compareOfLessAndEq]; by_cases h : a < b <;> by_cases h' : a = b <;> simp [h, h'] <;> omega
theorem some_beq (o p : Ordering) : (some o == some p) = decide (o = p) := by cases o <;> cases p <;> rfl
@[local go_sem] theorem f_lt (x y : Nat) : (FloatKind.f64.format.order x y == some Ordering.lt) = fltB x y := by
  rw [ord_cmp]; unfold fltB
  by_cases h : isn x ∨ isn y
  · rw [if_pos h]; symm; rw [show (none == some Ordering.lt) = false from rfl, decide_eq_false_iff_not]; rintro ⟨h1, h2, _⟩; exact h.elim h1 h2
  · rw [if_neg h, some_beq, Bool.eq_iff_iff, decide_eq_true_iff, decide_eq_true_iff, cmp_lt]
    exact ⟨fun c => ⟨fun a => h (Or.inl a), fun a => h (Or.inr a), c⟩, fun c => c.2.2⟩
@[local go_sem] theorem f_gt (x y : Nat) : (FloatKind.f64.format.order x y == some Ordering.gt) = fltB y x := by
  rw [ord_cmp]; unfold fltB
  by_cases h : isn x ∨ isn y
  · rw [if_pos h]; symm; rw [show (none == some Ordering.gt) = false from rfl, decide_eq_false_iff_not]; rintro ⟨h1, h2, _⟩; exact h.elim h2 h1
  · rw [if_neg h, some_beq, Bool.eq_iff_iff, decide_eq_true_iff, decide_eq_true_iff, cmp_gt]
    exact ⟨fun c => ⟨fun a => h (Or.inr a), fun a => h (Or.inl a), c⟩, fun c => c.2.2⟩
@[local go_sem] theorem f_eq (x y : Nat) : (FloatKind.f64.format.order x y == some Ordering.eq) = feqB x y := by
  rw [ord_cmp]; unfold feqB
  by_cases h : isn x ∨ isn y
  · rw [if_pos h]; symm; rw [show (none == some Ordering.eq) = false from rfl, decide_eq_false_iff_not]; rintro ⟨h1, h2, _⟩; exact h.elim h1 h2
  · rw [if_neg h, some_beq, Bool.eq_iff_iff, decide_eq_true_iff, decide_eq_true_iff, cmp_eq]
    exact ⟨fun c => ⟨fun a => h (Or.inl a), fun a => h (Or.inr a), c⟩, fun c => c.2.2⟩
@[local go_sem] theorem f_ne (x y : Nat) : (FloatKind.f64.format.order x y != some Ordering.eq) = !feqB x y := by
  rw [bne, f_eq]
end Go.Proofs.YtajcapliokblfaaGreatDoor.Bt
namespace Go.Proofs.YtajcapliokblfaaGreatDoor.Bt
open Go Go.RowKit Ff
attribute [local go_sem] f_lt f_gt f_eq f_ne
@[irreducible] def atB (p : Nat) : Bool := decide (p ≤ 18437736874454810626)
@[irreducible] def bigP (p : Nat) : Bool := decide (18437736874454810626 < p)
@[irreducible] def nanP (p : Nat) : Bool := decide (p = 18437736874454810626)
@[irreducible] def lowP (p : Nat) : Bool := decide (p < 9218868437227405313)
theorem bigP_iff (p : Nat) : bigP p = true ↔ 18437736874454810626 < p := by unfold bigP; exact decide_eq_true_iff
theorem nanP_iff (p : Nat) : nanP p = true ↔ p = 18437736874454810626 := by unfold nanP; exact decide_eq_true_iff
theorem lowP_iff (p : Nat) : lowP p = true ↔ p < 9218868437227405313 := by unfold lowP; exact decide_eq_true_iff
@[local go_sem] theorem big_p1 (p : Nat) : decide ((18437736874454810626 : Int) < (p : Int)) = bigP p := by
  rw [Bool.eq_iff_iff, decide_eq_true_iff, bigP_iff]; omega
@[local go_sem] theorem big_p2 (p : Nat) : decide ((18437736874454810627 : Int) ≤ (p : Int)) = bigP p := by
  rw [Bool.eq_iff_iff, decide_eq_true_iff, bigP_iff]; omega
@[local go_sem] theorem nan_p (p : Nat) : ((p : Int) == 18437736874454810626) = nanP p := by
  rw [Bool.eq_iff_iff, beq_iff_eq, nanP_iff]; omega
@[local go_sem] theorem low_p1 (p : Nat) : decide ((p : Int) < 9218868437227405313) = lowP p := by
  rw [Bool.eq_iff_iff, decide_eq_true_iff, lowP_iff]; omega
@[local go_sem] theorem low_p2 (p : Nat) : decide ((p : Int) ≤ 9218868437227405312) = lowP p := by
  rw [Bool.eq_iff_iff, decide_eq_true_iff, lowP_iff]; omega
end Go.Proofs.YtajcapliokblfaaGreatDoor.Bt
namespace Go.Proofs.YtajcapliokblfaaGreatDoor.Bt
open Go Go.RowKit Ff
attribute [local go_sem] f_lt f_gt f_eq f_ne
@[irreducible] def infW (x : Nat) : Bool := decide (x = 9218868437227405312)
theorem infW_iff (x : Nat) : infW x = true ↔ x = 9218868437227405312 := by unfold infW; exact decide_eq_true_iff
@[local go_sem] theorem inf_w (x : Nat) : ((x : Int) == 9218868437227405312) = infW x := by
  rw [Bool.eq_iff_iff, beq_iff_eq, infW_iff]; omega
@[irreducible] def upF (x : Nat) : Nat := if isn x then x else if x = 9218868437227405312 then x else if rung x = 0 then 1 else if sgn x then x - 1 else x + 1
end Go.Proofs.YtajcapliokblfaaGreatDoor.Bt
namespace Go.Proofs.YtajcapliokblfaaGreatDoor
open Go Go.RowKit Nt
def dyQ (g : Bool) (m : Nat) (e : Int) : Rat := fr g (m * 2 ^ rk2 e) (2 ^ rk1 e)
@[irreducible] noncomputable def wQ (x : Nat) : Rat := dyQ (Bt.Ff.sgn x) (Bt.pm x) (Bt.pex x)
end Go.Proofs.YtajcapliokblfaaGreatDoor
namespace Go.Proofs.YtajcapliokblfaaGreatDoor
open Go Go.RowKit Nt
structure Nr (a : Rat) (n b c : Nat) : Prop where
  lb : b < 18446744073709551616
  lc : c < 18446744073709551616
  ln : n < 18446744073709551616
  nb : ¬ Bt.Ff.isn b
  nc : ¬ Bt.Ff.isn c
  nn : ¬ Bt.Ff.isn n
  ne : Bt.feqB b c = false
  gt : Bt.fltB c b = false
  up : Bt.upF b = c
  or : Bt.feqB n b = true ∧ n = b ∨ Bt.feqB n b = false ∧ n = c
  fb : Bt.finB b = true → wQ b < a
  fc : Bt.finB c = true → a < wQ c
  nul : Bt.finB b = true → Bt.finB c = true → qC (a - wQ b) (wQ c - a) = 0 → n % 2 = 0
  neg : Bt.finB b = true → Bt.finB c = true → qC (a - wQ b) (wQ c - a) ≠ 0 → (Bt.feqB n b = true ↔ qC (a - wQ b) (wQ c - a) < 0)
end Go.Proofs.YtajcapliokblfaaGreatDoor
namespace Go.Proofs.YtajcapliokblfaaGreatDoor
open Go Go.RowKit Nt
theorem NSh_c (a n : Nat) (w : World) (hf : fits a) (hn : n ≤ 1048576) : Calls Tryz.prog 64 #[.string (natS a), .int .i64 (n : Nat)] w (StrPost (resS (a * 2 ^ n)) (resE (a * 2 ^ n)) w) := by
  by_cases h0 : a = 0
  · subst h0; rw [Nat.zero_mul, resS_ok hf, resE_ok hf]; exact NShift_zero n w
  · by_cases h1 : n = 0
    · subst h1; rw [Nat.pow_zero, Nat.mul_one, resS_ok hf, resE_ok hf]; exact NShift_stay a w hf h0
    · by_cases h2 : fits (a * 2 ^ n)
      · rw [resS_ok h2, resE_ok h2]; exact NShift_up a n w hf h0 (Nat.pos_of_ne_zero h1) h2
      · rw [resS_no h2, resE_no h2]; exact NShift_long a n w hf h0 (Nat.pos_of_ne_zero h1) h2 (by omega)
theorem rSh_c (a n : Nat) (w : World) (hf : fits a) : Calls Tryz.prog 66 #[.string (natS a), .int .i64 (n : Nat)] w (StrPost (resS (a * 2 ^ n)) (resE (a * 2 ^ n)) w) := by
  by_cases h0 : a = 0 ∨ n = 0
  · have e : a * 2 ^ n = a := by rcases h0 with h | h <;> subst h <;> simp
    rw [e, resS_ok hf, resE_ok hf]
    exact rShift_same a n w (by rcases h0 with h | h; exact Or.inl h; exact Or.inr (by omega))
  · exact rShift_up a n w (fun c => h0 (Or.inl c)) (fun c => h0 (Or.inr c)) hf
end Go.Proofs.YtajcapliokblfaaGreatDoor
namespace Go.Proofs.YtajcapliokblfaaGreatDoor
open Go Go.RowKit Nt
theorem Sh_one0 (w : World) : Calls Tryz.prog 64 #[.string ⟨#[1]⟩, .int .i64 0] w fun e w' => e = .returned (.tuple #[.string ⟨#[1]⟩, .int .i64 0]) ∧ Below w.heap.size w w' := by
  have h := NShift_stay 1 w fits_1r (by decide)
  rw [natS_1r] at h; exact h
theorem Sh_nul0 (w : World) : Calls Tryz.prog 64 #[.string ⟨#[]⟩, .int .i64 0] w fun e w' => e = .returned (.tuple #[.string ⟨#[]⟩, .int .i64 0]) ∧ Below w.heap.size w w' := by
  have h := NShift_zero 0 w
  rw [natS_zero] at h; exact h
theorem Sh_ok (a k : Nat) (w : World) (hf : fits a) (hk : k ≤ 1048576) (h : fits (a * 2 ^ k)) : Calls Tryz.prog 64 #[.string (natS a), .int .i64 (k : Nat)] w fun e w' => e = .returned (.tuple #[.string (natS (a * 2 ^ k)), .int .i64 0]) ∧ Below w.heap.size w w' := by
  have hh := NSh_c a k w hf hk
  rwa [resS_ok h, resE_ok h] at hh
theorem Sh_no (a k : Nat) (w : World) (hf : fits a) (hk : k ≤ 1048576) (h : ¬ fits (a * 2 ^ k)) : Calls Tryz.prog 64 #[.string (natS a), .int .i64 (k : Nat)] w fun e w' => e = .returned (.tuple #[.string ⟨#[]⟩, .int .i64 4]) ∧ Below w.heap.size w w' := by
  have hh := NSh_c a k w hf hk
  rwa [resS_no h, resE_no h] at hh
theorem rSh_ok (a k : Nat) (w : World) (hf : fits a) (h : fits (a * 2 ^ k)) : Calls Tryz.prog 66 #[.string (natS a), .int .i64 (k : Nat)] w fun e w' => e = .returned (.tuple #[.string (natS (a * 2 ^ k)), .int .i64 0]) ∧ Below w.heap.size w w' := by
  have hh := rSh_c a k w hf
  rwa [resS_ok h, resE_ok h] at hh
theorem rSh_no (a k : Nat) (w : World) (hf : fits a) (h : ¬ fits (a * 2 ^ k)) : Calls Tryz.prog 66 #[.string (natS a), .int .i64 (k : Nat)] w fun e w' => e = .returned (.tuple #[.string ⟨#[]⟩, .int .i64 4]) ∧ Below w.heap.size w w' := by
  have hh := rSh_c a k w hf
  rwa [resS_no h, resE_no h] at hh
theorem max_f (k : Nat) : max (k : Int) 0 = (k : Int) ∧ max 0 (k : Int) = (k : Int) ∧ max (-(k : Int)) 0 = 0 ∧ max 0 (-(k : Int)) = 0 := by omega
set_option maxRecDepth 100000 in
set_option maxHeartbeats 200000 in
theorem POf_bad (g : Bool) (s : ByteArray) (x : Int) (h : ¬ DOk g s x) (hz : s.size ≤ 9223372036854775807) (w : World) : Calls Tryz.prog 14 #[.agg #[.bool g, .string s, .int .i64 x]] w fun e' w' => e' = .returned (.tuple #[.agg #[.bool false, .string ⟨#[]⟩, .string ⟨#[]⟩], .int .i64 2]) ∧ Below w.heap.size w w' := by
  have K1 := Lib.hid (fun w => DCheck_bad g s x w hz h)
  clear h hz
  obtain ⟨bl, hbl⟩ : ∃ bl : List C3, bl = [(.bool g, .string s, .int .i64 x)] := ⟨_, rfl⟩
  have hbn : bl.length = 1 := by rw [hbl]; rfl
  have T0 := BR.start1 w (.bool g) (.string s) (.int .i64 x) false (.string ⟨#[]⟩) (.string ⟨#[]⟩) 26 24
  rw [← hbl] at T0
  have HBL := Lib.hid hbl
  clear hbl
  go_enter Tryz.func14, Tryz.ntmps14
  go_wp2_with fail
  refine (K1.out _).mono ?_
  rintro ee w1 ⟨rfl, hb⟩
  replace T0 := T0.step hb
  clear hb
  obtain ⟨p0, p1, p2, p3, p4, p5, p6⟩ := T0.boxZ (.bool g, .string s, .int .i64 x) (by rw [HBL.out]; rfl)
  obtain ⟨q0, q1, q2, q3, q4, q5, q6⟩ := T0.res (n := 1) hbn
  have hfin := below_put3 T0.1 (show w.heap.size ≤ w.heap.size + 1 by omega)
  go_wp2_with fail
  refine bodyPost_ret (v := .tuple #[.agg #[.bool false, .string ⟨#[]⟩, .string ⟨#[]⟩], .int .i64 2]) (by simp [results, Tryz.results14, go_sem, q0, q1, q2, q3]) rfl ⟨rfl, hfin _ _ _⟩
set_option maxRecDepth 100000 in
set_option maxHeartbeats 200000 in
theorem rOf_bad (g : Bool) (s : ByteArray) (x : Int) (h : ¬ DOk g s x) (hz : s.size ≤ 9223372036854775807) (w : World) : Calls Tryz.prog 15 #[.agg #[.bool g, .string s, .int .i64 x]] w fun e' w' => e' = .returned (.tuple #[.agg #[.bool false, .string ⟨#[]⟩, .string ⟨#[]⟩], .int .i64 2]) ∧ Below w.heap.size w w' := by
  have K1 := Lib.hid (fun w => rMay3_bad g s x w hz h)
  clear h hz
  obtain ⟨bl, hbl⟩ : ∃ bl : List C3, bl = [(.bool g, .string s, .int .i64 x)] := ⟨_, rfl⟩
  have hbn : bl.length = 1 := by rw [hbl]; rfl
  have T0 := BR.start1 w (.bool g) (.string s) (.int .i64 x) false (.string ⟨#[]⟩) (.string ⟨#[]⟩) 26 24
  rw [← hbl] at T0
  have HBL := Lib.hid hbl
  clear hbl
  go_enter Tryz.func15, Tryz.ntmps15
  go_wp2_with fail
  refine (K1.out _).mono ?_
  rintro ee w1 ⟨rfl, hb⟩
  replace T0 := T0.step hb
  clear hb
  obtain ⟨p0, p1, p2, p3, p4, p5, p6⟩ := T0.boxZ (.bool g, .string s, .int .i64 x) (by rw [HBL.out]; rfl)
  obtain ⟨q0, q1, q2, q3, q4, q5, q6⟩ := T0.res (n := 1) hbn
  have hfin := below_put3 T0.1 (show w.heap.size ≤ w.heap.size + 1 by omega)
  go_wp2_with fail
  refine bodyPost_ret (v := .tuple #[.agg #[.bool false, .string ⟨#[]⟩, .string ⟨#[]⟩], .int .i64 2]) (by simp [results, Tryz.results15, go_sem, q0, q1, q2, q3]) rfl ⟨rfl, hfin _ _ _⟩
set_option maxRecDepth 100000 in
set_option maxHeartbeats 200000 in
theorem POf_zero  (w : World) : Calls Tryz.prog 14 #[.agg #[.bool false, .string ⟨#[]⟩, .int .i64 0]] w fun e' w' => e' = .returned (.tuple #[.agg #[.bool false, .string ⟨#[]⟩, .string ⟨#[1]⟩], .int .i64 0]) ∧ Below w.heap.size w w' := by
  have K1 := Lib.hid (fun w => DCheck_zero w)
  have K2 := Lib.hid (fun w => Sh_nul0 w)
  have K3 := Lib.hid (fun w => Sh_one0 w)
  obtain ⟨bl, hbl⟩ : ∃ bl : List C3, bl = [(.bool false, .string ⟨#[]⟩, .int .i64 0)] := ⟨_, rfl⟩
  have hbn : bl.length = 1 := by rw [hbl]; rfl
  have T0 := BR.start1 w (.bool false) (.string ⟨#[]⟩) (.int .i64 0) false (.string ⟨#[]⟩) (.string ⟨#[]⟩) 26 24
  rw [← hbl] at T0
  have HBL := Lib.hid hbl
  clear hbl
  go_enter Tryz.func14, Tryz.ntmps14
  go_wp2_with fail
  refine (K1.out _).mono ?_
  rintro ee w1 ⟨rfl, hb⟩
  replace T0 := T0.step hb
  clear hb
  obtain ⟨p0, p1, p2, p3, p4, p5, p6⟩ := T0.boxZ (.bool false, .string ⟨#[]⟩, .int .i64 0) (by rw [HBL.out]; rfl)
  go_wp2_with fail
  refine (K2.out _).mono ?_
  rintro ee w2 ⟨rfl, hb⟩
  replace T0 := T0.step hb
  clear hb
  clear p0 p1 p2 p3 p4 p5 p6
  obtain ⟨p0, p1, p2, p3, p4, p5, p6⟩ := T0.boxZ (.bool false, .string ⟨#[]⟩, .int .i64 0) (by rw [HBL.out]; rfl)
  go_wp2_with fail
  refine (K3.out _).mono ?_
  rintro ee w3 ⟨rfl, hb⟩
  replace T0 := T0.step hb
  clear hb
  clear p0 p1 p2 p3 p4 p5 p6
  obtain ⟨p0, p1, p2, p3, p4, p5, p6⟩ := T0.boxZ (.bool false, .string ⟨#[]⟩, .int .i64 0) (by rw [HBL.out]; rfl)
  obtain ⟨q0, q1, q2, q3, q4, q5, q6⟩ := T0.res (n := 1) hbn
  have hfin := below_put3 T0.1 (show w.heap.size ≤ w.heap.size + 1 by omega)
  go_wp2_with fail
  refine bodyPost_ret (v := .tuple #[.agg #[.bool false, .string ⟨#[]⟩, .string ⟨#[1]⟩], .int .i64 0]) (by simp [results, Tryz.results14, go_sem, q0, q1, q2, q3]) rfl ⟨rfl, hfin _ _ _⟩
set_option maxRecDepth 100000 in
set_option maxHeartbeats 200000 in
theorem rOf_zero  (w : World) : Calls Tryz.prog 15 #[.agg #[.bool false, .string ⟨#[]⟩, .int .i64 0]] w fun e' w' => e' = .returned (.tuple #[.agg #[.bool false, .string ⟨#[]⟩, .string ⟨#[1]⟩], .int .i64 0]) ∧ Below w.heap.size w w' := by
  have K1 := Lib.hid (fun w => rMay3_zero w)
  have d1 : (ByteArray.mk #[]).toList = [] := by rw [ba_toList]
  obtain ⟨bl, hbl⟩ : ∃ bl : List C3, bl = [(.bool false, .string ⟨#[]⟩, .int .i64 0)] := ⟨_, rfl⟩
  have hbn : bl.length = 1 := by rw [hbl]; rfl
  have T0 := BR.start1 w (.bool false) (.string ⟨#[]⟩) (.int .i64 0) false (.string ⟨#[]⟩) (.string ⟨#[]⟩) 26 24
  rw [← hbl] at T0
  have HBL := Lib.hid hbl
  clear hbl
  go_enter Tryz.func15, Tryz.ntmps15
  go_wp2_with fail
  refine (K1.out _).mono ?_
  rintro ee w1 ⟨rfl, hb⟩
  replace T0 := T0.step hb
  clear hb
  obtain ⟨p0, p1, p2, p3, p4, p5, p6⟩ := T0.boxZ (.bool false, .string ⟨#[]⟩, .int .i64 0) (by rw [HBL.out]; rfl)
  obtain ⟨q0, q1, q2, q3, q4, q5, q6⟩ := T0.res (n := 1) hbn
  have hfin := below_put3 T0.1 (show w.heap.size ≤ w.heap.size + 1 by omega)
  go_wp2_with fail
  refine bodyPost_ret (v := .tuple #[.agg #[.bool false, .string ⟨#[]⟩, .string ⟨#[1]⟩], .int .i64 0]) (by simp [results, Tryz.results15, go_sem, q0, q1, q2, q3]) rfl ⟨rfl, hfin _ _ _⟩
set_option maxRecDepth 100000 in
set_option maxHeartbeats 200000 in
theorem POf_p1 (g : Bool) (n k : Nat) (hf : fits n) (ho : n % 2 = 1) (hk : k ≤ 1048576) (h : fits (n * 2 ^ k)) (w : World) : Calls Tryz.prog 14 #[.agg #[.bool g, .string (natS n), .int .i64 ((k : Nat) : Int)]] w fun e' w' => e' = .returned (.tuple #[.agg #[.bool g, .string (natS (n * 2 ^ k)), .string ⟨#[1]⟩], .int .i64 0]) ∧ Below w.heap.size w w' := by
  have K1 := Lib.hid (fun w => DCheck_num g n k w hf ho (by omega) (by omega))
  have K2 := Lib.hid (fun w => Sh_ok n k w hf hk h)
  have K3 := Lib.hid (fun w => Sh_one0 w)
  obtain ⟨m1, m2, m3, m4⟩ := max_f k
  have hw1 : IntKind.i64.wrap (-(k : Int)) = -(k : Int) := IntWalk.i64_in _ ⟨by omega, by omega⟩
  have hw2 : IntKind.i64.wrap (k : Int) = (k : Int) := IntWalk.i64_in _ ⟨by omega, by omega⟩
  have d1 := natS_full (odd_ne ho)
  have d2 := natS_full2 (odd_ne ho)
  clear h ho hf hk
  generalize n * 2 ^ k = N at *
  obtain ⟨bl, hbl⟩ : ∃ bl : List C3, bl = [(.bool g, .string (natS n), .int .i64 ((k : Nat) : Int))] := ⟨_, rfl⟩
  have hbn : bl.length = 1 := by rw [hbl]; rfl
  have T0 := BR.start1 w (.bool g) (.string (natS n)) (.int .i64 ((k : Nat) : Int)) false (.string ⟨#[]⟩) (.string ⟨#[]⟩) 26 24
  rw [← hbl] at T0
  have HBL := Lib.hid hbl
  clear hbl
  go_enter Tryz.func14, Tryz.ntmps14
  go_wp2_with fail
  refine (K1.out _).mono ?_
  rintro ee w1 ⟨rfl, hb⟩
  replace T0 := T0.step hb
  clear hb
  obtain ⟨p0, p1, p2, p3, p4, p5, p6⟩ := T0.boxZ (.bool g, .string (natS n), .int .i64 ((k : Nat) : Int)) (by rw [HBL.out]; rfl)
  go_wp2_with fail
  refine (K2.out _).mono ?_
  rintro ee w2 ⟨rfl, hb⟩
  replace T0 := T0.step hb
  clear hb
  clear p0 p1 p2 p3 p4 p5 p6
  obtain ⟨p0, p1, p2, p3, p4, p5, p6⟩ := T0.boxZ (.bool g, .string (natS n), .int .i64 ((k : Nat) : Int)) (by rw [HBL.out]; rfl)
  go_wp2_with fail
  refine (K3.out _).mono ?_
  rintro ee w3 ⟨rfl, hb⟩
  replace T0 := T0.step hb
  clear hb
  clear p0 p1 p2 p3 p4 p5 p6
  obtain ⟨p0, p1, p2, p3, p4, p5, p6⟩ := T0.boxZ (.bool g, .string (natS n), .int .i64 ((k : Nat) : Int)) (by rw [HBL.out]; rfl)
  obtain ⟨q0, q1, q2, q3, q4, q5, q6⟩ := T0.res (n := 1) hbn
  have hfin := below_put3 T0.1 (show w.heap.size ≤ w.heap.size + 1 by omega)
  go_wp2_with fail
  refine bodyPost_ret (v := .tuple #[.agg #[.bool g, .string (natS N), .string ⟨#[1]⟩], .int .i64 0]) (by simp [results, Tryz.results14, go_sem, q0, q1, q2, q3]) rfl ⟨rfl, hfin _ _ _⟩
set_option maxRecDepth 100000 in
set_option maxHeartbeats 200000 in
theorem rOf_p1 (g : Bool) (n k : Nat) (hf : fits n) (ho : n % 2 = 1) (hk : k ≤ 1048576) (h : fits (n * 2 ^ k)) (w : World) : Calls Tryz.prog 15 #[.agg #[.bool g, .string (natS n), .int .i64 ((k : Nat) : Int)]] w fun e' w' => e' = .returned (.tuple #[.agg #[.bool g, .string (natS (n * 2 ^ k)), .string ⟨#[1]⟩], .int .i64 0]) ∧ Below w.heap.size w w' := by
  have K1 := Lib.hid (fun w => rMay3_num g n k w hf ho (by omega) (by omega))
  have K2 := Lib.hid (fun w => rSh_ok n k w hf h)
  have hk0 : decide ((0 : Int) ≤ (k : Int)) = true := decide_eq_true (by omega)
  have d1 := natS_full (odd_ne ho)
  have d2 := natS_full2 (odd_ne ho)
  clear h ho hf hk
  generalize n * 2 ^ k = N at *
  obtain ⟨bl, hbl⟩ : ∃ bl : List C3, bl = [(.bool g, .string (natS n), .int .i64 ((k : Nat) : Int))] := ⟨_, rfl⟩
  have hbn : bl.length = 1 := by rw [hbl]; rfl
  have T0 := BR.start1 w (.bool g) (.string (natS n)) (.int .i64 ((k : Nat) : Int)) false (.string ⟨#[]⟩) (.string ⟨#[]⟩) 26 24
  rw [← hbl] at T0
  have HBL := Lib.hid hbl
  clear hbl
  go_enter Tryz.func15, Tryz.ntmps15
  go_wp2_with fail
  refine (K1.out _).mono ?_
  rintro ee w1 ⟨rfl, hb⟩
  replace T0 := T0.step hb
  clear hb
  obtain ⟨p0, p1, p2, p3, p4, p5, p6⟩ := T0.boxZ (.bool g, .string (natS n), .int .i64 ((k : Nat) : Int)) (by rw [HBL.out]; rfl)
  go_wp2_with fail
  refine (K2.out _).mono ?_
  rintro ee w2 ⟨rfl, hb⟩
  replace T0 := T0.step hb
  clear hb
  clear p0 p1 p2 p3 p4 p5 p6
  obtain ⟨p0, p1, p2, p3, p4, p5, p6⟩ := T0.boxZ (.bool g, .string (natS n), .int .i64 ((k : Nat) : Int)) (by rw [HBL.out]; rfl)
  obtain ⟨q0, q1, q2, q3, q4, q5, q6⟩ := T0.res (n := 1) hbn
  have hfin := below_put3 T0.1 (show w.heap.size ≤ w.heap.size + 1 by omega)
  go_wp2_with fail
  refine bodyPost_ret (v := .tuple #[.agg #[.bool g, .string (natS N), .string ⟨#[1]⟩], .int .i64 0]) (by simp [results, Tryz.results15, go_sem, q0, q1, q2, q3]) rfl ⟨rfl, hfin _ _ _⟩
set_option maxRecDepth 100000 in
set_option maxHeartbeats 200000 in
theorem POf_p0 (g : Bool) (n k : Nat) (hf : fits n) (ho : n % 2 = 1) (hk : k ≤ 1048576) (h : ¬ fits (n * 2 ^ k)) (w : World) : Calls Tryz.prog 14 #[.agg #[.bool g, .string (natS n), .int .i64 ((k : Nat) : Int)]] w fun e' w' => e' = .returned (.tuple #[.agg #[.bool false, .string ⟨#[]⟩, .string ⟨#[]⟩], .int .i64 4]) ∧ Below w.heap.size w w' := by
  have K1 := Lib.hid (fun w => DCheck_num g n k w hf ho (by omega) (by omega))
  have K2 := Lib.hid (fun w => Sh_no n k w hf hk h)
  have K3 := Lib.hid (fun w => Sh_one0 w)
  obtain ⟨m1, m2, m3, m4⟩ := max_f k
  have hw1 : IntKind.i64.wrap (-(k : Int)) = -(k : Int) := IntWalk.i64_in _ ⟨by omega, by omega⟩
  have hw2 : IntKind.i64.wrap (k : Int) = (k : Int) := IntWalk.i64_in _ ⟨by omega, by omega⟩
  have d1 := natS_full (odd_ne ho)
  have d2 := natS_full2 (odd_ne ho)
  clear h ho hf hk
  generalize n * 2 ^ k = N at *
  obtain ⟨bl, hbl⟩ : ∃ bl : List C3, bl = [(.bool g, .string (natS n), .int .i64 ((k : Nat) : Int))] := ⟨_, rfl⟩
  have hbn : bl.length = 1 := by rw [hbl]; rfl
  have T0 := BR.start1 w (.bool g) (.string (natS n)) (.int .i64 ((k : Nat) : Int)) false (.string ⟨#[]⟩) (.string ⟨#[]⟩) 26 24
  rw [← hbl] at T0
  have HBL := Lib.hid hbl
  clear hbl
  go_enter Tryz.func14, Tryz.ntmps14
  go_wp2_with fail
  refine (K1.out _).mono ?_
  rintro ee w1 ⟨rfl, hb⟩
  replace T0 := T0.step hb
  clear hb
  obtain ⟨p0, p1, p2, p3, p4, p5, p6⟩ := T0.boxZ (.bool g, .string (natS n), .int .i64 ((k : Nat) : Int)) (by rw [HBL.out]; rfl)
  go_wp2_with fail
  refine (K2.out _).mono ?_
  rintro ee w2 ⟨rfl, hb⟩
  replace T0 := T0.step hb
  clear hb
  clear p0 p1 p2 p3 p4 p5 p6
  obtain ⟨p0, p1, p2, p3, p4, p5, p6⟩ := T0.boxZ (.bool g, .string (natS n), .int .i64 ((k : Nat) : Int)) (by rw [HBL.out]; rfl)
  go_wp2_with fail
  refine (K3.out _).mono ?_
  rintro ee w3 ⟨rfl, hb⟩
  replace T0 := T0.step hb
  clear hb
  clear p0 p1 p2 p3 p4 p5 p6
  obtain ⟨p0, p1, p2, p3, p4, p5, p6⟩ := T0.boxZ (.bool g, .string (natS n), .int .i64 ((k : Nat) : Int)) (by rw [HBL.out]; rfl)
  obtain ⟨q0, q1, q2, q3, q4, q5, q6⟩ := T0.res (n := 1) hbn
  have hfin := below_put3 T0.1 (show w.heap.size ≤ w.heap.size + 1 by omega)
  go_wp2_with fail
  refine bodyPost_ret (v := .tuple #[.agg #[.bool false, .string ⟨#[]⟩, .string ⟨#[]⟩], .int .i64 4]) (by simp [results, Tryz.results14, go_sem, q0, q1, q2, q3]) rfl ⟨rfl, hfin _ _ _⟩
set_option maxRecDepth 100000 in
set_option maxHeartbeats 200000 in
theorem rOf_p0 (g : Bool) (n k : Nat) (hf : fits n) (ho : n % 2 = 1) (hk : k ≤ 1048576) (h : ¬ fits (n * 2 ^ k)) (w : World) : Calls Tryz.prog 15 #[.agg #[.bool g, .string (natS n), .int .i64 ((k : Nat) : Int)]] w fun e' w' => e' = .returned (.tuple #[.agg #[.bool false, .string ⟨#[]⟩, .string ⟨#[]⟩], .int .i64 4]) ∧ Below w.heap.size w w' := by
  have K1 := Lib.hid (fun w => rMay3_num g n k w hf ho (by omega) (by omega))
  have K2 := Lib.hid (fun w => rSh_no n k w hf h)
  have hk0 : decide ((0 : Int) ≤ (k : Int)) = true := decide_eq_true (by omega)
  have d1 := natS_full (odd_ne ho)
  have d2 := natS_full2 (odd_ne ho)
  clear h ho hf hk
  generalize n * 2 ^ k = N at *
  obtain ⟨bl, hbl⟩ : ∃ bl : List C3, bl = [(.bool g, .string (natS n), .int .i64 ((k : Nat) : Int))] := ⟨_, rfl⟩
  have hbn : bl.length = 1 := by rw [hbl]; rfl
  have T0 := BR.start1 w (.bool g) (.string (natS n)) (.int .i64 ((k : Nat) : Int)) false (.string ⟨#[]⟩) (.string ⟨#[]⟩) 26 24
  rw [← hbl] at T0
  have HBL := Lib.hid hbl
  clear hbl
  go_enter Tryz.func15, Tryz.ntmps15
  go_wp2_with fail
  refine (K1.out _).mono ?_
  rintro ee w1 ⟨rfl, hb⟩
  replace T0 := T0.step hb
  clear hb
  obtain ⟨p0, p1, p2, p3, p4, p5, p6⟩ := T0.boxZ (.bool g, .string (natS n), .int .i64 ((k : Nat) : Int)) (by rw [HBL.out]; rfl)
  go_wp2_with fail
  refine (K2.out _).mono ?_
  rintro ee w2 ⟨rfl, hb⟩
  replace T0 := T0.step hb
  clear hb
  clear p0 p1 p2 p3 p4 p5 p6
  obtain ⟨p0, p1, p2, p3, p4, p5, p6⟩ := T0.boxZ (.bool g, .string (natS n), .int .i64 ((k : Nat) : Int)) (by rw [HBL.out]; rfl)
  obtain ⟨q0, q1, q2, q3, q4, q5, q6⟩ := T0.res (n := 1) hbn
  have hfin := below_put3 T0.1 (show w.heap.size ≤ w.heap.size + 1 by omega)
  go_wp2_with fail
  refine bodyPost_ret (v := .tuple #[.agg #[.bool false, .string ⟨#[]⟩, .string ⟨#[]⟩], .int .i64 4]) (by simp [results, Tryz.results15, go_sem, q0, q1, q2, q3]) rfl ⟨rfl, hfin _ _ _⟩
set_option maxRecDepth 100000 in
set_option maxHeartbeats 200000 in
theorem POf_n1 (g : Bool) (n k : Nat) (hf : fits n) (ho : n % 2 = 1) (hk : k ≤ 1048576) (hk0 : 0 < k) (h : fits (1 * 2 ^ k)) (w : World) : Calls Tryz.prog 14 #[.agg #[.bool g, .string (natS n), .int .i64 (-((k : Nat) : Int))]] w fun e' w' => e' = .returned (.tuple #[.agg #[.bool g, .string (natS n), .string (natS (1 * 2 ^ k))], .int .i64 0]) ∧ Below w.heap.size w w' := by
  have K1 := Lib.hid (fun w => DCheck_num g n (-(k : Int)) w hf ho (by omega) (by omega))
  have K2 := Lib.hid (fun w => NShift_stay n w hf (odd_ne ho))
  have K3 := Lib.hid (fun w => (by have h := Sh_ok 1 k w fits_1r hk h; rw [natS_1r] at h; exact h))
  obtain ⟨m1, m2, m3, m4⟩ := max_f k
  have hw1 : IntKind.i64.wrap (-(k : Int)) = -(k : Int) := IntWalk.i64_in _ ⟨by omega, by omega⟩
  have hw2 : IntKind.i64.wrap (k : Int) = (k : Int) := IntWalk.i64_in _ ⟨by omega, by omega⟩
  have d1 := natS_full (odd_ne ho)
  have d2 := natS_full2 (odd_ne ho)
  clear h ho hf hk hk0
  generalize 1 * 2 ^ k = N at *
  obtain ⟨bl, hbl⟩ : ∃ bl : List C3, bl = [(.bool g, .string (natS n), .int .i64 (-((k : Nat) : Int)))] := ⟨_, rfl⟩
  have hbn : bl.length = 1 := by rw [hbl]; rfl
  have T0 := BR.start1 w (.bool g) (.string (natS n)) (.int .i64 (-((k : Nat) : Int))) false (.string ⟨#[]⟩) (.string ⟨#[]⟩) 26 24
  rw [← hbl] at T0
  have HBL := Lib.hid hbl
  clear hbl
  go_enter Tryz.func14, Tryz.ntmps14
  go_wp2_with fail
  refine (K1.out _).mono ?_
  rintro ee w1 ⟨rfl, hb⟩
  replace T0 := T0.step hb
  clear hb
  obtain ⟨p0, p1, p2, p3, p4, p5, p6⟩ := T0.boxZ (.bool g, .string (natS n), .int .i64 (-((k : Nat) : Int))) (by rw [HBL.out]; rfl)
  go_wp2_with fail
  refine (K2.out _).mono ?_
  rintro ee w2 ⟨rfl, hb⟩
  replace T0 := T0.step hb
  clear hb
  clear p0 p1 p2 p3 p4 p5 p6
  obtain ⟨p0, p1, p2, p3, p4, p5, p6⟩ := T0.boxZ (.bool g, .string (natS n), .int .i64 (-((k : Nat) : Int))) (by rw [HBL.out]; rfl)
  go_wp2_with fail
  refine (K3.out _).mono ?_
  rintro ee w3 ⟨rfl, hb⟩
  replace T0 := T0.step hb
  clear hb
  clear p0 p1 p2 p3 p4 p5 p6
  obtain ⟨p0, p1, p2, p3, p4, p5, p6⟩ := T0.boxZ (.bool g, .string (natS n), .int .i64 (-((k : Nat) : Int))) (by rw [HBL.out]; rfl)
  obtain ⟨q0, q1, q2, q3, q4, q5, q6⟩ := T0.res (n := 1) hbn
  have hfin := below_put3 T0.1 (show w.heap.size ≤ w.heap.size + 1 by omega)
  go_wp2_with fail
  refine bodyPost_ret (v := .tuple #[.agg #[.bool g, .string (natS n), .string (natS N)], .int .i64 0]) (by simp [results, Tryz.results14, go_sem, q0, q1, q2, q3]) rfl ⟨rfl, hfin _ _ _⟩
set_option maxRecDepth 100000 in
set_option maxHeartbeats 200000 in
theorem rOf_n1 (g : Bool) (n k : Nat) (hf : fits n) (ho : n % 2 = 1) (hk : k ≤ 1048576) (hk0 : 0 < k) (h : fits (1 * 2 ^ k)) (w : World) : Calls Tryz.prog 15 #[.agg #[.bool g, .string (natS n), .int .i64 (-((k : Nat) : Int))]] w fun e' w' => e' = .returned (.tuple #[.agg #[.bool g, .string (natS n), .string (natS (1 * 2 ^ k))], .int .i64 0]) ∧ Below w.heap.size w w' := by
  have K1 := Lib.hid (fun w => rMay3_num g n (-(k : Int)) w hf ho (by omega) (by omega))
  have K2 := Lib.hid (fun w => (by have h := rSh_ok 1 k w fits_1r h; rw [natS_1r] at h; exact h))
  have hw2 : IntKind.i64.wrap (k : Int) = (k : Int) := IntWalk.i64_in _ ⟨by omega, by omega⟩
  have d1 := natS_full (odd_ne ho)
  have d2 := natS_full2 (odd_ne ho)
  have e2 : decide ((0 : Int) ≤ -(k : Int)) = false := decide_eq_false (by omega)
  have k0 : ¬ k = 0 := by omega
  have e3 : ¬ (k : Int) ≤ 0 := by omega
  have e4 : decide ((k : Int) ≤ 0) = false := decide_eq_false e3
  have e5 : decide (k = 0) = false := decide_eq_false k0
  clear h ho hf hk hk0
  generalize 1 * 2 ^ k = N at *
  obtain ⟨bl, hbl⟩ : ∃ bl : List C3, bl = [(.bool g, .string (natS n), .int .i64 (-((k : Nat) : Int)))] := ⟨_, rfl⟩
  have hbn : bl.length = 1 := by rw [hbl]; rfl
  have T0 := BR.start1 w (.bool g) (.string (natS n)) (.int .i64 (-((k : Nat) : Int))) false (.string ⟨#[]⟩) (.string ⟨#[]⟩) 26 24
  rw [← hbl] at T0
  have HBL := Lib.hid hbl
  clear hbl
  go_enter Tryz.func15, Tryz.ntmps15
  go_wp2_with fail
  refine (K1.out _).mono ?_
  rintro ee w1 ⟨rfl, hb⟩
  replace T0 := T0.step hb
  clear hb
  obtain ⟨p0, p1, p2, p3, p4, p5, p6⟩ := T0.boxZ (.bool g, .string (natS n), .int .i64 (-((k : Nat) : Int))) (by rw [HBL.out]; rfl)
  go_wp2_with fail
  refine (K2.out _).mono ?_
  rintro ee w2 ⟨rfl, hb⟩
  replace T0 := T0.step hb
  clear hb
  clear p0 p1 p2 p3 p4 p5 p6
  obtain ⟨p0, p1, p2, p3, p4, p5, p6⟩ := T0.boxZ (.bool g, .string (natS n), .int .i64 (-((k : Nat) : Int))) (by rw [HBL.out]; rfl)
  obtain ⟨q0, q1, q2, q3, q4, q5, q6⟩ := T0.res (n := 1) hbn
  have hfin := below_put3 T0.1 (show w.heap.size ≤ w.heap.size + 1 by omega)
  go_wp2_with fail
  refine bodyPost_ret (v := .tuple #[.agg #[.bool g, .string (natS n), .string (natS N)], .int .i64 0]) (by simp [results, Tryz.results15, go_sem, q0, q1, q2, q3]) rfl ⟨rfl, hfin _ _ _⟩
set_option maxRecDepth 100000 in
set_option maxHeartbeats 200000 in
theorem POf_n0 (g : Bool) (n k : Nat) (hf : fits n) (ho : n % 2 = 1) (hk : k ≤ 1048576) (hk0 : 0 < k) (h : ¬ fits (1 * 2 ^ k)) (w : World) : Calls Tryz.prog 14 #[.agg #[.bool g, .string (natS n), .int .i64 (-((k : Nat) : Int))]] w fun e' w' => e' = .returned (.tuple #[.agg #[.bool false, .string ⟨#[]⟩, .string ⟨#[]⟩], .int .i64 4]) ∧ Below w.heap.size w w' := by
  have K1 := Lib.hid (fun w => DCheck_num g n (-(k : Int)) w hf ho (by omega) (by omega))
  have K2 := Lib.hid (fun w => NShift_stay n w hf (odd_ne ho))
  have K3 := Lib.hid (fun w => (by have h := Sh_no 1 k w fits_1r hk h; rw [natS_1r] at h; exact h))
  obtain ⟨m1, m2, m3, m4⟩ := max_f k
  have hw1 : IntKind.i64.wrap (-(k : Int)) = -(k : Int) := IntWalk.i64_in _ ⟨by omega, by omega⟩
  have hw2 : IntKind.i64.wrap (k : Int) = (k : Int) := IntWalk.i64_in _ ⟨by omega, by omega⟩
  have d1 := natS_full (odd_ne ho)
  have d2 := natS_full2 (odd_ne ho)
  clear h ho hf hk hk0
  generalize 1 * 2 ^ k = N at *
  obtain ⟨bl, hbl⟩ : ∃ bl : List C3, bl = [(.bool g, .string (natS n), .int .i64 (-((k : Nat) : Int)))] := ⟨_, rfl⟩
  have hbn : bl.length = 1 := by rw [hbl]; rfl
  have T0 := BR.start1 w (.bool g) (.string (natS n)) (.int .i64 (-((k : Nat) : Int))) false (.string ⟨#[]⟩) (.string ⟨#[]⟩) 26 24
  rw [← hbl] at T0
  have HBL := Lib.hid hbl
  clear hbl
  go_enter Tryz.func14, Tryz.ntmps14
  go_wp2_with fail
  refine (K1.out _).mono ?_
  rintro ee w1 ⟨rfl, hb⟩
  replace T0 := T0.step hb
  clear hb
  obtain ⟨p0, p1, p2, p3, p4, p5, p6⟩ := T0.boxZ (.bool g, .string (natS n), .int .i64 (-((k : Nat) : Int))) (by rw [HBL.out]; rfl)
  go_wp2_with fail
  refine (K2.out _).mono ?_
  rintro ee w2 ⟨rfl, hb⟩
  replace T0 := T0.step hb
  clear hb
  clear p0 p1 p2 p3 p4 p5 p6
  obtain ⟨p0, p1, p2, p3, p4, p5, p6⟩ := T0.boxZ (.bool g, .string (natS n), .int .i64 (-((k : Nat) : Int))) (by rw [HBL.out]; rfl)
  go_wp2_with fail
  refine (K3.out _).mono ?_
  rintro ee w3 ⟨rfl, hb⟩
  replace T0 := T0.step hb
  clear hb
  clear p0 p1 p2 p3 p4 p5 p6
  obtain ⟨p0, p1, p2, p3, p4, p5, p6⟩ := T0.boxZ (.bool g, .string (natS n), .int .i64 (-((k : Nat) : Int))) (by rw [HBL.out]; rfl)
  obtain ⟨q0, q1, q2, q3, q4, q5, q6⟩ := T0.res (n := 1) hbn
  have hfin := below_put3 T0.1 (show w.heap.size ≤ w.heap.size + 1 by omega)
  go_wp2_with fail
  refine bodyPost_ret (v := .tuple #[.agg #[.bool false, .string ⟨#[]⟩, .string ⟨#[]⟩], .int .i64 4]) (by simp [results, Tryz.results14, go_sem, q0, q1, q2, q3]) rfl ⟨rfl, hfin _ _ _⟩
set_option maxRecDepth 100000 in
set_option maxHeartbeats 200000 in
theorem rOf_n0 (g : Bool) (n k : Nat) (hf : fits n) (ho : n % 2 = 1) (hk : k ≤ 1048576) (hk0 : 0 < k) (h : ¬ fits (1 * 2 ^ k)) (w : World) : Calls Tryz.prog 15 #[.agg #[.bool g, .string (natS n), .int .i64 (-((k : Nat) : Int))]] w fun e' w' => e' = .returned (.tuple #[.agg #[.bool false, .string ⟨#[]⟩, .string ⟨#[]⟩], .int .i64 4]) ∧ Below w.heap.size w w' := by
  have K1 := Lib.hid (fun w => rMay3_num g n (-(k : Int)) w hf ho (by omega) (by omega))
  have K2 := Lib.hid (fun w => (by have h := rSh_no 1 k w fits_1r h; rw [natS_1r] at h; exact h))
  have hw2 : IntKind.i64.wrap (k : Int) = (k : Int) := IntWalk.i64_in _ ⟨by omega, by omega⟩
  have d1 := natS_full (odd_ne ho)
  have d2 := natS_full2 (odd_ne ho)
  have e2 : decide ((0 : Int) ≤ -(k : Int)) = false := decide_eq_false (by omega)
  have k0 : ¬ k = 0 := by omega
  have e3 : ¬ (k : Int) ≤ 0 := by omega
  have e4 : decide ((k : Int) ≤ 0) = false := decide_eq_false e3
  have e5 : decide (k = 0) = false := decide_eq_false k0
  clear h ho hf hk hk0
  generalize 1 * 2 ^ k = N at *
  obtain ⟨bl, hbl⟩ : ∃ bl : List C3, bl = [(.bool g, .string (natS n), .int .i64 (-((k : Nat) : Int)))] := ⟨_, rfl⟩
  have hbn : bl.length = 1 := by rw [hbl]; rfl
  have T0 := BR.start1 w (.bool g) (.string (natS n)) (.int .i64 (-((k : Nat) : Int))) false (.string ⟨#[]⟩) (.string ⟨#[]⟩) 26 24
  rw [← hbl] at T0
  have HBL := Lib.hid hbl
  clear hbl
  go_enter Tryz.func15, Tryz.ntmps15
  go_wp2_with fail
  refine (K1.out _).mono ?_
  rintro ee w1 ⟨rfl, hb⟩
  replace T0 := T0.step hb
  clear hb
  obtain ⟨p0, p1, p2, p3, p4, p5, p6⟩ := T0.boxZ (.bool g, .string (natS n), .int .i64 (-((k : Nat) : Int))) (by rw [HBL.out]; rfl)
  go_wp2_with fail
  refine (K2.out _).mono ?_
  rintro ee w2 ⟨rfl, hb⟩
  replace T0 := T0.step hb
  clear hb
  clear p0 p1 p2 p3 p4 p5 p6
  obtain ⟨p0, p1, p2, p3, p4, p5, p6⟩ := T0.boxZ (.bool g, .string (natS n), .int .i64 (-((k : Nat) : Int))) (by rw [HBL.out]; rfl)
  obtain ⟨q0, q1, q2, q3, q4, q5, q6⟩ := T0.res (n := 1) hbn
  have hfin := below_put3 T0.1 (show w.heap.size ≤ w.heap.size + 1 by omega)
  go_wp2_with fail
  refine bodyPost_ret (v := .tuple #[.agg #[.bool false, .string ⟨#[]⟩, .string ⟨#[]⟩], .int .i64 4]) (by simp [results, Tryz.results15, go_sem, q0, q1, q2, q3]) rfl ⟨rfl, hfin _ _ _⟩
end Go.Proofs.YtajcapliokblfaaGreatDoor
namespace Go.Proofs
open Go.Shelf
def Tryz.lays103_ren : Go.Shelf.Ren := ⟨fun | 103 => 98 | 210 => 151 | 206 => 159 | n => n, fun | 9 => 9 | 4 => 4 | 24 => 114 | 3 => 3 | n => n, fun | n => n⟩
theorem Tryz.lays103 : Go.Proofs.Lays.n103 Tryz.prog Tryz.lays103_ren := {
  mixed := by kernel_rfl
  f103 := Tryz.func98.trans (congrArg some (by kernel_rfl))
  f206 := Tryz.func159.trans (congrArg some (by kernel_rfl))
  f210 := Tryz.func151.trans (congrArg some (by kernel_rfl))
  t3 := Tryz.underlying3
  a3 := Tryz.isAgg3
  z3 := Tryz.sizeOf3
  v3 := Tryz.zeroValue3
  t4 := Tryz.underlying4
  a4 := Tryz.isAgg4
  z4 := Tryz.sizeOf4
  v4 := Tryz.zeroValue4
  t9 := Tryz.underlying9
  a9 := Tryz.isAgg9
  z9 := Tryz.sizeOf9
  v9 := Tryz.zeroValue9
  t24 := Tryz.underlying114
  a24 := Tryz.isAgg114
  z24 := Tryz.sizeOf114
  v24 := Tryz.zeroValue114 }
open Go.RowKit in
theorem Tryz.strings_CutPrefix (s p : ByteArray) (w : World) :
    Calls Tryz.prog 98 #[.string s, .string p] w fun e w' => e = .returned (.tuple #[.string ⟨(Lib.trimPrefix s.data.toList p.data.toList).toArray⟩, .bool (Lib.hasPrefix s.data.toList p.data.toList)]) ∧ w' = w := Any.strings_CutPrefix Tryz.lays103 s p w
def Tryz.lays217_ren : Go.Shelf.Ren := ⟨fun | 217 => 193 | 266 => 199 | n => n, fun | 9 => 9 | 5 => 5 | 3 => 3 | n => n, fun | n => n⟩
theorem Tryz.lays217 : Go.Proofs.Lays.n217 Tryz.prog Tryz.lays217_ren := {
  mixed := by kernel_rfl
  f217 := Tryz.func193.trans (congrArg some (by kernel_rfl))
  f266 := Tryz.func199.trans (congrArg some (by kernel_rfl))
  t3 := Tryz.underlying3
  a3 := Tryz.isAgg3
  z3 := Tryz.sizeOf3
  v3 := Tryz.zeroValue3
  t5 := Tryz.underlying5
  a5 := Tryz.isAgg5
  z5 := Tryz.sizeOf5
  v5 := Tryz.zeroValue5
  t9 := Tryz.underlying9
  a9 := Tryz.isAgg9
  z9 := Tryz.sizeOf9
  v9 := Tryz.zeroValue9 }
open Go.RowKit Go.Lib in
theorem Tryz.stringslite_IndexByte (s : ByteArray) (c : Int) (w : World) :
    Calls Tryz.prog 193 #[.string s, .int .u8 c] w fun e w' => e = .returned (.int .i64 (Lib.indexByte s.data.toList c.toNat.toUInt8)) ∧ w' = w := Any.stringslite_IndexByte Tryz.lays217 s c w
end Go.Proofs
namespace Go.Proofs.YtajcapliokblfaaGreatDoor
open Go Go.RowKit Nt
def atB (c : UInt8) (l : List UInt8) : Nat := (l.takeWhile (· != c)).length
theorem atB_cons (c b : UInt8) (l : List UInt8) : atB c (b :: l) = if b = c then 0 else atB c l + 1 := by
  unfold atB
  rw [List.takeWhile_cons]
  by_cases h : b = c
  · rw [if_pos h, if_neg (by simp [h])]; rfl
  · rw [if_neg h, if_pos (by simp [h])]; rfl
theorem index_at (c : UInt8) (l : List UInt8) : Lib.indexByte l c = if atB c l < l.length then (atB c l : Int) else -1 := by
  induction l with
  | nil => rfl
  | cons b l ih =>
    rw [atB_cons, List.length_cons]
    show (if b == c then 0 else if Lib.indexByte l c == -1 then -1 else Lib.indexByte l c + 1) = _
    by_cases h : b = c
    · rw [if_pos (by simp [h]), if_pos h, if_pos (by omega)]; rfl
    · rw [if_neg (by simp [h]), if_neg h, ih]
      by_cases k : atB c l < l.length
      · rw [if_pos k, if_neg (by rw [beq_iff_eq]; omega), if_pos (Nat.succ_lt_succ k)]; omega
      · rw [if_neg k, if_pos (by simp), if_neg (fun c => k (Nat.lt_of_succ_lt_succ c))]
theorem atB_get (c : UInt8) (l : List UInt8) (k : Nat) (hk : k < l.length) : (k < atB c l → l[k] ≠ c) ∧ (k = atB c l → l[k] = c) := by
  induction l generalizing k with
  | nil => exact absurd hk (Nat.not_lt_zero _)
  | cons b l ih =>
    rw [atB_cons]
    cases k with
    | zero => by_cases h : b = c <;> simp [h]
    | succ k =>
      have := ih k (by simpa using hk)
      by_cases h : b = c
      · simp [h]
      · simp only [if_neg h, List.getElem_cons_succ]
        exact ⟨fun k' => this.1 (by omega), fun k' => this.2 (by omega)⟩
@[irreducible] def ixB (c : UInt8) (s : ByteArray) : Nat := atB c s.data.toList
theorem ixB_get (c : UInt8) (s : ByteArray) (k : Nat) (hk : k < s.size) : (k < ixB c s → s[k] ≠ c) ∧ (k = ixB c s → s[k] = c) := by
  unfold ixB; exact atB_get c s.data.toList k hk
@[irreducible] def hasB (c : UInt8) (s : ByteArray) : Bool := decide (ixB c s < s.size)
@[irreducible] def headB (c : UInt8) (s : ByteArray) : ByteArray := if hasB c s = true then s.extract 0 (ixB c s) else s
@[irreducible] def tailB (c : UInt8) (s : ByteArray) : ByteArray := if hasB c s = true then s.extract (ixB c s + 1) s.size else ⟨#[]⟩
theorem hasB_iff {c : UInt8} {s : ByteArray} : hasB c s = true ↔ ixB c s < s.size := by unfold hasB; exact decide_eq_true_iff
theorem index_ix (c : UInt8) (s : ByteArray) : Lib.indexByte s.data.toList c = if hasB c s = true then (ixB c s : Int) else -1 := by
  rw [index_at]
  unfold hasB ixB
  simp only [decide_eq_true_iff]
  rfl
set_option maxRecDepth 100000 in
theorem PIndex_c (c : UInt8) (s : ByteArray) (w : World) : Calls Tryz.prog 183 #[.string s, .string ⟨#[c]⟩] w fun e w' => e = .returned (.int .i64 (if hasB c s = true then (ixB c s : Int) else -1)) ∧ w' = w := by
  have hc : ((c.toNat : Int)).toNat.toUInt8 = c := by rw [Int.toNat_natCast]; exact UInt8.ofNat_toNat
  have K := Lib.hid (Tryz.stringslite_IndexByte s (c.toNat : Int))
  rw [hc, index_ix] at K
  clear hc
  by_cases hs : s = ⟨#[c]⟩
  · have h0 : ixB c s = 0 := by subst hs; unfold ixB; show atB c [c] = 0; rw [atB_cons, if_pos rfl]
    have h1 : hasB c s = true := hasB_iff.2 (by rw [h0, hs]; show 0 < 1; omega)
    have hq : ([c] == s.toList) = true := by rw [hs, ba_toList]; simp
    rw [if_pos h1, h0]
    clear K h0 h1 hs
    go_enter Tryz.func183, Tryz.ntmps183
    go_wp2_with fail
    go_ret
    exact ⟨rfl, rfl⟩
  · have hq : ([c] == s.toList) = false := by
      rw [ba_toList, beq_eq_false_iff_ne]
      intro h
      refine hs (ByteArray.ext (Array.ext' ?_))
      exact h.symm
    clear hs
    generalize (if hasB c s = true then (ixB c s : Int) else -1) = z at *
    go_enter Tryz.func183, Tryz.ntmps183
    go_wp2_with (first | (go_at_call 193; go_loud (refine (K.out _).mono ?_; rintro ee w1 ⟨rfl, rfl⟩)))
    go_ret
    exact ⟨rfl, rfl⟩
set_option maxRecDepth 100000 in
theorem PCut1_c (c : UInt8) (s : ByteArray) (w : World) (hz : s.size ≤ 9223372036854775807) : Calls Tryz.prog 152 #[.string s, .string ⟨#[c]⟩] w fun e w' => e = .returned (.tuple #[.string (headB c s), .string (tailB c s), .bool (hasB c s)]) ∧ Below w.heap.size w w' := by
  have K := Lib.hid (PIndex_c c s)
  by_cases h : hasB c s = true
  · have hi := hasB_iff.1 h
    have e1 : headB c s = s.extract 0 (ixB c s) := by unfold headB; rw [if_pos h]
    have e2 : tailB c s = s.extract (ixB c s + 1) s.size := by unfold tailB; rw [if_pos h]
    rw [if_pos h] at K
    rw [h, e1, e2]
    clear h e1 e2
    generalize ixB c s = i at *
    have r1 : ∀ w, (Instr.slice 9 (.string s) none (some (.int .i64 (i : Int))) none).run Tryz.prog w = .ok (.string (s.extract 0 i)) w := fun w => by
      have h := run_slice_string_h (P := Tryz.prog) w 9 s Tryz.underlying9 .i64 (i : Int) (by omega) (by omega)
      rwa [Int.toNat_natCast] at h
    have r2 : ∀ w, (Instr.slice 9 (.string s) (some (.int .i64 ((i : Int) + 1))) none none).run Tryz.prog w = .ok (.string (s.extract (i + 1) s.size)) w := fun w => by
      have h := run_slice_string_l (P := Tryz.prog) w 9 s Tryz.underlying9 .i64 ((i : Int) + 1) (by omega) (by omega)
      rwa [show ((i : Int) + 1).toNat = i + 1 by omega] at h
    go_enter Tryz.func152, Tryz.ntmps152
    go_upto_region 3 with (first | (go_at_call 183; (with_reducible refine (K.out _).mono ?_); rintro ee w1 ⟨rfl, rfl⟩))
    go_region
    go_wp2_with fail
    go_ret3
    exact ⟨rfl, (Below.refl _ _).drew⟩
  · have e1 : headB c s = s := by unfold headB; rw [if_neg h]
    have e2 : tailB c s = ⟨#[]⟩ := by unfold tailB; rw [if_neg h]
    rw [if_neg h] at K
    rw [Bool.eq_false_iff.2 h, e1, e2]
    clear h e1 e2
    go_enter Tryz.func152, Tryz.ntmps152
    go_wp2_with (first | (go_at_call 183; (with_reducible refine (K.out _).mono ?_); rintro ee w1 ⟨rfl, rfl⟩))
    go_ret3
    exact ⟨rfl, Below.refl _ _⟩
set_option maxRecDepth 100000 in
theorem PCut_c (c : UInt8) (s : ByteArray) (w : World) (hz : s.size ≤ 9223372036854775807) : Calls Tryz.prog 99 #[.string s, .string ⟨#[c]⟩] w fun e w' => e = .returned (.tuple #[.string (headB c s), .string (tailB c s), .bool (hasB c s)]) ∧ Below w.heap.size w w' := by
  have K := Lib.hid (fun w => PCut1_c c s w hz)
  generalize headB c s = a at *
  generalize tailB c s = b at *
  generalize hasB c s = z at *
  go_enter Tryz.func99, Tryz.ntmps99
  go_wp2_with (first | (go_at_call 152; (with_reducible refine (K.out _).mono ?_); rintro ee w1 ⟨rfl, hb⟩))
  go_ret3
  exact ⟨rfl, hb⟩
@[irreducible] def begB (c : UInt8) (s : ByteArray) : Bool := decide (∃ h : 0 < s.size, s[0] = c)
@[irreducible] def offB (c : UInt8) (s : ByteArray) : ByteArray := if begB c s = true then s.extract 1 s.size else s
theorem begB_iff {c : UInt8} {s : ByteArray} : begB c s = true ↔ ∃ h : 0 < s.size, s[0] = c := by unfold begB; exact decide_eq_true_iff
theorem has_pre (c : UInt8) (s : ByteArray) : Lib.hasPrefix s.data.toList [c] = begB c s := by
  obtain ⟨⟨l⟩⟩ := s
  cases l with
  | nil =>
    have h : begB c ⟨⟨[]⟩⟩ = false := Bool.eq_false_iff.2 fun k => by obtain ⟨h, _⟩ := begB_iff.1 k; exact absurd h (by decide)
    rw [h]; rfl
  | cons b l =>
    rw [Bool.eq_iff_iff, begB_iff]
    have e : Lib.hasPrefix (b :: l) [c] = (c == b) := by simp [Lib.hasPrefix, List.isPrefixOf]
    show Lib.hasPrefix (b :: l) [c] = true ↔ _
    rw [e, beq_iff_eq]
    exact ⟨fun h => ⟨Nat.succ_pos _, h.symm⟩, fun ⟨_, h⟩ => h.symm⟩
theorem trim_pre (c : UInt8) (s : ByteArray) : (⟨(Lib.trimPrefix s.data.toList [c]).toArray⟩ : ByteArray) = offB c s := by
  unfold Lib.trimPrefix offB
  rw [has_pre]
  by_cases h : begB c s = true
  · rw [if_pos h, if_pos h]
    apply ByteArray.ext
    apply Array.ext'
    rw [ByteArray.data_extract, Array.toList_extract]
    show s.data.toList.drop 1 = _
    rw [List.extract_eq_take_drop, List.take_of_length_le]
    rw [List.length_drop]
    exact Nat.le_refl _
  · rw [if_neg h, if_neg h]
theorem PCutPrefix_c (c : UInt8) (s : ByteArray) (w : World) : Calls Tryz.prog 98 #[.string s, .string ⟨#[c]⟩] w fun e w' => e = .returned (.tuple #[.string (offB c s), .bool (begB c s)]) ∧ Below w.heap.size w w' := by
  have h := Tryz.strings_CutPrefix s ⟨#[c]⟩ w
  rw [show (ByteArray.mk #[c]).data.toList = [c] from rfl, has_pre, trim_pre] at h
  exact h.mono fun e w' h => ⟨h.1, by rw [h.2]; exact Below.refl _ _⟩
end Go.Proofs.YtajcapliokblfaaGreatDoor
namespace Go.Proofs.YtajcapliokblfaaGreatDoor
open Go Go.RowKit Nt
def decV (l : List UInt8) : Nat := l.foldl (fun a b => 10 * a + (b.toNat - 48)) 0
theorem decV_snoc (l : List UInt8) (c : UInt8) : decV (l ++ [c]) = 10 * decV l + (c.toNat - 48) := by unfold decV; rw [List.foldl_append]; rfl
def isDig (c : UInt8) : Prop := 48 ≤ c.toNat ∧ c.toNat ≤ 57
instance (c : UInt8) : Decidable (isDig c) := inferInstanceAs (Decidable (_ ∧ _))
theorem decV_lt : ∀ (n : Nat) (l : List UInt8), l.length = n → (∀ c ∈ l, isDig c) → decV l < 10 ^ n := by
  intro n
  induction n with
  | zero => intro l hl _; rw [List.eq_nil_of_length_eq_zero hl]; simp [decV]
  | succ n ih =>
    intro l hl h
    have hne : l ≠ [] := fun c => by rw [c] at hl; simp at hl
    rw [← List.dropLast_concat_getLast hne]
    have h1 := ih l.dropLast (by rw [List.length_dropLast]; omega) (fun x hx => h x ((List.dropLast_sublist l).subset hx))
    have h2 := h (l.getLast hne) (List.getLast_mem hne)
    unfold isDig at h2
    rw [decV_snoc, Nat.pow_succ]; omega
@[irreducible] def preV (s : ByteArray) (k : Nat) : Nat := decV (s.data.toList.take k)
theorem preV_zero (s : ByteArray) : preV s 0 = 0 := by unfold preV; rfl
theorem preV_succ (s : ByteArray) (k : Nat) (h : k < s.size) : preV s (k + 1) = 10 * preV s k + (s[k].toNat - 48) := by
  unfold preV
  have hk : k < s.data.toList.length := by rw [Array.length_toList]; exact h
  rw [List.take_succ_eq_append_getElem hk, decV_snoc]; rfl
def Digits (s : ByteArray) : Prop := ∀ k (h : k < s.size), isDig s[k]
def Valid (s : ByteArray) : Prop := 0 < s.size ∧ Digits s ∧ ¬ (1 < s.size ∧ ∀ h : 0 < s.size, s[0].toNat = 48)
theorem dig_pre {s : ByteArray} (h : Digits s) (k : Nat) (hk : k ≤ s.size) : preV s k < 10 ^ k := by
  unfold preV
  refine decV_lt k _ (by rw [List.length_take, Array.length_toList]; exact Nat.min_eq_left hk) (fun c hc => ?_)
  obtain ⟨j, hj, rfl⟩ := List.getElem_of_mem (List.mem_of_mem_take hc)
  rw [Array.length_toList] at hj
  exact h j hj
def RdOk (s : ByteArray) (k x part ten : Nat) : Prop := preV s k = x * ten + part ∧ part < ten ∧ ∃ j, j < 19 ∧ ten = 10 ^ j
theorem rd_lt {s : ByteArray} {k x part ten : Nat} (h : RdOk s k x part ten) : ten ≤ 1000000000000000000 ∧ part < 1000000000000000000 := by
  obtain ⟨_, h2, j, hj, rfl⟩ := h
  have : (10 : Nat) ^ j ≤ 10 ^ 18 := Nat.pow_le_pow_right (by omega) (by omega)
  have e : (10 : Nat) ^ 18 = 1000000000000000000 := by decide
  omega
theorem rd_step {s : ByteArray} {k x part ten d : Nat} (h : RdOk s k x part ten) (hd : preV s (k + 1) = 10 * preV s k + d) (hd10 : d < 10) :
    preV s (k + 1) = x * (ten * 10) + (part * 10 + d) ∧ part * 10 + d < ten * 10 := by
  obtain ⟨h1, h2, _⟩ := h
  rw [hd, h1]
  constructor
  · rw [Nat.mul_add, ← Nat.mul_assoc x ten 10]; omega
  · omega
theorem rd_keep {s : ByteArray} {k x part ten d : Nat} (h : RdOk s k x part ten) (hd : preV s (k + 1) = 10 * preV s k + d) (hd10 : d < 10) (hne : ten * 10 ≠ 10000000000000000000) : RdOk s (k + 1) x (part * 10 + d) (ten * 10) := by
  obtain ⟨q1, q2⟩ := rd_step h hd hd10
  refine ⟨q1, q2, ?_⟩
  obtain ⟨_, _, j, hj, rfl⟩ := h
  refine ⟨j + 1, ?_, by rw [Nat.pow_succ]⟩
  rcases Nat.lt_or_ge (j + 1) 19 with h3 | h3
  · exact h3
  · exfalso; apply hne
    have : j = 18 := by omega
    subst this; decide
theorem rd_push {s : ByteArray} {k x part ten d : Nat} (h : RdOk s k x part ten) (hd : preV s (k + 1) = 10 * preV s k + d) (hd10 : d < 10) : RdOk s (k + 1) (x * (ten * 10) + (part * 10 + d)) 0 1 := by
  obtain ⟨q1, q2⟩ := rd_step h hd hd10
  exact ⟨by rw [Nat.mul_one, Nat.add_zero]; exact q1, by omega, 0, by omega, by rw [Nat.pow_zero]⟩
@[irreducible] def t19B (x : Nat) : Bool := decide (x = 10000000000000000000)
theorem t19_yes {x : Nat} (h : x = 10000000000000000000) : t19B x = true := by unfold t19B; exact decide_eq_true h
theorem t19_no {x : Nat} (h : x ≠ 10000000000000000000) : t19B x = false := by unfold t19B; exact decide_eq_false h
@[local go_sem] theorem eq_t19 (x : Nat) : ((x : Int) == 10000000000000000000) = t19B x := by
  unfold t19B; rw [Bool.eq_iff_iff, beq_iff_eq, decide_eq_true_iff]; omega
theorem pre_ge {s : ByteArray} (hd : Digits s) (h0 : 0 < s.size) (h1 : s[0].toNat ≠ 48) : ∀ k, k + 1 ≤ s.size → 10 ^ k ≤ preV s (k + 1) := by
  intro k
  induction k with
  | zero =>
    intro _
    rw [preV_succ s 0 h0, preV_zero]
    have := hd 0 h0; unfold isDig at this
    rw [Nat.pow_zero]; omega
  | succ k ih =>
    intro hk
    have := ih (by omega)
    rw [preV_succ s (k + 1) (by omega), Nat.pow_succ]; omega
@[irreducible] def E39 : Nat := 39457
@[irreducible] def E16 : Nat := 16384
theorem E39_eq : E39 = 39457 := by unfold E39; rfl
theorem E16_eq : E16 = 16384 := by unfold E16; rfl
theorem big_ten : (256 : Nat) ^ E16 ≤ 10 ^ E39 := by unfold E16 E39; decide +kernel
theorem not_fits_ten {n : Nat} (h : 10 ^ E39 ≤ n) : ¬ fits n := by
  unfold fits
  rw [← E16_eq, ← lt_pow_iff (by omega)]
  exact Nat.not_lt.2 (Nat.le_trans big_ten h)
theorem long_dec {s : ByteArray} (hd : Digits s) (h0 : 0 < s.size) (h1 : s[0].toNat ≠ 48) (hl : 39457 < s.size) : ¬ fits (preV s s.size) := by
  obtain ⟨m, hm⟩ : ∃ m, s.size = m + 1 := ⟨s.size - 1, by omega⟩
  have := pre_ge hd h0 h1 m (by omega)
  rw [hm]
  exact not_fits_ten (Nat.le_trans (Nat.pow_le_pow_right (by omega) (by rw [E39_eq]; omega)) this)
set_option maxRecDepth 100000 in
theorem NRead_empty (s : ByteArray) (w : World) (h : s.size = 0) :
    Calls Tryz.prog 100 #[.string s] w (StrPost ⟨#[]⟩ 22 w) := by
  have hE := toList_empty h
  have H := Lib.hid h
  clear h
  go_enter Tryz.func100, Tryz.ntmps100
  go_wp2
  go_ret2
  exact ⟨rfl, Below.refl _ _⟩
set_option maxRecDepth 100000 in
theorem NRead_nought (s : ByteArray) (w : World) (h : 1 < s.size) (h0 : s[0].toNat = 48) (hs : s.size ≤ 9223372036854775807) :
    Calls Tryz.prog 100 #[.string s] w (StrPost ⟨#[]⟩ 22 w) := by
  have hp : 0 < s.size := by omega
  have hE := toList_full hp
  have hE2 := toList_full2 hp
  have h48 : ((s[0].toNat : Int) == 48) = true := by rw [beq_iff_eq]; omega
  have hI : (1 : Int) < (s.size : Int) := by omega
  have H0 := Lib.hid h0
  clear h0
  go_enter Tryz.func100, Tryz.ntmps100
  go_wp2
  go_ret2
  exact ⟨rfl, Below.refl _ _⟩
theorem head_no {s : ByteArray} (hp : 0 < s.size) (hn : ¬ (1 < s.size ∧ ∀ h : 0 < s.size, s[0].toNat = 48)) : ((s[0].toNat : Int) == 48) = false ∨ (((s[0].toNat : Int) == 48) = true ∧ ¬ (1 : Int) < (s.size : Int) ∧ ¬ 1 < s.size) := by
  by_cases h : s[0].toNat = 48
  · refine Or.inr ⟨by rw [beq_iff_eq]; omega, ?_, ?_⟩
    · intro c; exact hn ⟨by omega, fun _ => h⟩
    · intro c; exact hn ⟨c, fun _ => h⟩
  · exact Or.inl (by rw [beq_eq_false_iff_ne]; omega)
set_option maxRecDepth 100000 in
set_option maxHeartbeats 1000000 in
theorem NRead_bad (s : ByteArray) (w : World) (hs : s.size ≤ 9223372036854775807) (hp : 0 < s.size) (hn : ¬ (1 < s.size ∧ ∀ h : 0 < s.size, s[0].toNat = 48)) (hd : ¬ Digits s) :
    Calls Tryz.prog 100 #[.string s] w (StrPost ⟨#[]⟩ 22 w) := by
  have hE := toList_full hp
  have hE2 := toList_full2 hp
  have HD := Lib.hid hd
  have hh := head_no hp hn
  clear hn hd
  rcases hh with h1 | ⟨h1, h2, h3⟩
  all_goals
    go_enter Tryz.func100, Tryz.ntmps100
    go_wp2
    go_loop [23] (fun i => ∃ k : Nat, k ≤ s.size ∧ i = .int .i64 k ∧ Hid (∀ j (h : j < s.size), j < k → isDig s[j])) (fun i => s.size - (intOf i).toNat)
    case atStart => exact ⟨0, Nat.zero_le _, rfl, Lib.hid (fun j h hj => by omega)⟩
    case round =>
      obtain ⟨k, hk, rfl, hdg⟩ := hrel
      by_cases hlt : k < s.size
      · by_cases hdk : isDig s[k]
        · have hN : Hid (∀ j (h : j < s.size), j < k + 1 → isDig s[j]) := Lib.hid (fun j h hj => by
            rcases Nat.lt_or_ge j k with h4 | h4
            · exact hdg.out j h h4
            · obtain rfl : j = k := by omega
              exact hdk)
          unfold isDig at hdk
          have q1 : ¬ (s[k].toNat : Int) < 48 := by omega
          have q2 : ¬ (57 : Int) < (s[k].toNat : Int) := by omega
          clear hdk
          go_wp2
          go_round
          case rel => exact ⟨k + 1, by omega, by go_num, hN⟩
          case measure => simp [intOf]; omega
        · unfold isDig at hdk
          by_cases q1 : s[k].toNat < 48
          · have q2 : (s[k].toNat : Int) < 48 := by omega
            clear hdk
            go_wp2
            go_ret2
            exact ⟨rfl, Below.refl _ _⟩
          · have q2 : ¬ (s[k].toNat : Int) < 48 := by omega
            have q3 : (57 : Int) < (s[k].toNat : Int) := by omega
            clear hdk
            go_wp2
            go_ret2
            exact ⟨rfl, Below.refl _ _⟩
      · exact absurd (fun j h => hdg.out j h (by omega)) HD.out
theorem first_no {s : ByteArray} (hd : Digits s) (k : Nat) (h : k < s.size) : ¬ (s[k].toNat : Int) < 48 ∧ ¬ (57 : Int) < (s[k].toNat : Int) := by
  have := hd k h; unfold isDig at this; omega
theorem ndW_dec {n k : Nat} (h : n < 10 ^ k) : nd W n ≤ k := by
  refine nd_le W2 (Nat.lt_of_lt_of_le h (Nat.pow_le_pow_left ?_ k))
  rw [W_eq]; omega
set_option maxRecDepth 100000 in
set_option maxHeartbeats 4000000 in
theorem NRead_ok (s : ByteArray) (w : World) (hs : s.size ≤ 9223372036854775807) (hv : Valid s) (hlong : 39457 < s.size → ¬ fits (preV s s.size)) :
    Calls Tryz.prog 100 #[.string s] w (StrPost (resS (preV s s.size)) (resE (preV s s.size)) w) := by
  obtain ⟨hp, hd, hn⟩ := hv
  have hE := toList_full hp
  have hE2 := toList_full2 hp
  have HD := Lib.hid hd
  have hh := head_no hp hn
  have HL := Lib.hid hlong
  clear hn hd hlong
  rcases hh with h1 | ⟨h1, h2, h3⟩
  all_goals
    go_enter Tryz.func100, Tryz.ntmps100
    go_wp2
    go_loop [23] (fun i => ∃ k : Nat, k ≤ s.size ∧ i = .int .i64 k) (fun i => s.size - (intOf i).toNat)
    case atStart => exact ⟨0, Nat.zero_le _, rfl⟩
    case round =>
      obtain ⟨k, hk, rfl⟩ := hrel
      by_cases hlt : k < s.size
      · obtain ⟨q1, q2⟩ := first_no HD.out k hlt
        go_wp2
        go_round
        case rel => exact ⟨k + 1, by omega, by go_num⟩
        case measure => simp [intOf]; omega
      · obtain rfl : k = s.size := by omega
        by_cases hbig : 39457 < s.size
        · have hbI : (39457 : Int) < (s.size : Int) := by omega
          have e1 := Lib.hid (resS_no (HL.out hbig))
          have e2 := Lib.hid (resE_no (HL.out hbig))
          go_wp2
          go_ret2
          exact ⟨by rw [e1.out, e2.out]; rfl, Below.refl _ _⟩
        · have hbI : ¬ (39457 : Int) < (s.size : Int) := by omega
          have hsz : s.size ≤ 39457 := by omega
          have hszI : (s.size : Int) ≤ 39457 := by omega
          go_wp2
          go_loopw [5, 6, 7, 42] (fun x y z i wr => ∃ (k X part ten c : Nat) (A : Option Addr), k ≤ s.size ∧ i = .int .i64 k ∧ x = .slice A (nd W X) c ∧ y = .int .u64 part ∧ z = .int .u64 ten ∧ nd W X ≤ c ∧ Hid (Row wr wr.heap.size A X (nd W X)) ∧ Hid (RdOk s k X part ten) ∧ Hid (k = s.size → part = 0 ∧ ten = 1) ∧ Below w.heap.size w wr) (fun _ _ _ i _ => s.size - (intOf i).toNat)
          case atStart =>
            have e : nd W 0 = 0 := nd_zero _
            exact ⟨0, 0, 0, 1, 0, none, Nat.zero_le _, rfl, by rw [e], rfl, rfl, by rw [e]; exact Nat.le_refl _, by rw [e]; exact Lib.hid Row.none_, Lib.hid ⟨by rw [preV_zero], by omega, 0, by omega, by rw [Nat.pow_zero]⟩, Lib.hid (fun h => ⟨rfl, rfl⟩), Below.refl _ _⟩
          case round =>
            obtain ⟨k, X, part, ten, c, A, hk, rfl, rfl, rfl, rfl, hc, hrow, hrd, hlast, hb⟩ := hrel
            by_cases hlt : k < s.size
            · obtain ⟨d, hdd⟩ : ∃ d, d = s[k].toNat - 48 := ⟨_, rfl⟩
              have hdig := HD.out k hlt
              unfold isDig at hdig
              have hd10 : d < 10 := by omega
              have hpre := preV_succ s k hlt
              rw [← hdd] at hpre
              obtain ⟨ht, hpt⟩ := rd_lt hrd.out
              obtain ⟨t10, ht10⟩ : ∃ t10, t10 = ten * 10 := ⟨_, rfl⟩
              obtain ⟨p10, hp10⟩ : ∃ p10, p10 = part * 10 := ⟨_, rfl⟩
              obtain ⟨p', hp'⟩ : ∃ p', p' = p10 + d := ⟨_, rfl⟩
              have w1 : IntKind.u64.wrap ((part : Int) * 10) = (p10 : Int) := by rw [IntKind.wrap_u64]; omega
              have w2 : IntKind.u8.wrap ((s[k].toNat : Int) - 48) = (d : Int) := by rw [show (s[k].toNat : Int) - 48 = ((d : Nat) : Int) by omega, wrap_u8]; omega
              have w3 : IntKind.u64.wrap (d : Int) = (d : Int) := by rw [IntKind.wrap_u64]; omega
              have w4 : IntKind.u64.wrap ((p10 : Int) + (d : Int)) = (p' : Int) := by rw [IntKind.wrap_u64]; omega
              have w5 : IntKind.u64.wrap ((ten : Int) * 10) = (t10 : Int) := by rw [IntKind.wrap_u64]; omega
              have hXw : nd W X ≤ 39457 := by
                have h5 := dig_pre HD.out k hk
                have h6 : X < 10 ^ k := by
                  refine Nat.lt_of_le_of_lt ?_ h5
                  rw [hrd.out.1]
                  obtain ⟨_, hlt1, j, hj, rfl⟩ := hrd.out
                  have := Nat.mul_le_mul_left X (Nat.pow_pos (n := j) (show 0 < 10 by omega))
                  omega
                have := ndW_dec h6; omega
              have hstep := rd_push hrd.out hpre hd10
              rw [← ht10, show part * 10 + d = p' by omega] at hstep
              have hkeep := fun h => rd_keep hrd.out hpre hd10 h
              rw [← ht10, show part * 10 + d = p' by omega] at hkeep
              have HST := Lib.hid hstep
              have HKP := Lib.hid hkeep
              have l1 := Lib.hid (show t10 < 18446744073709551616 by omega)
              have l2 := Lib.hid (show p' < 18446744073709551616 by omega)
              have HW := Lib.hid hXw
              clear hdd hdig hpre ht hpt ht10 hp10 hp' hXw hstep hkeep
              have hcs : (t19B t10 = true ∨ (t19B t10 = false ∧ k + 1 = s.size)) ∨ (t10 ≠ 10000000000000000000 ∧ k + 1 ≠ s.size) := by
                by_cases g1 : t10 = 10000000000000000000
                · exact Or.inl (Or.inl (t19_yes g1))
                · by_cases g2 : k + 1 = s.size
                  · exact Or.inl (Or.inr ⟨t19_no g1, g2⟩)
                  · exact Or.inr ⟨g1, g2⟩
              rcases hcs with g | ⟨g1, g2⟩
              · rcases g with g | ⟨g, g2⟩
                case' inr =>
                  have hl : ((k : Int) == (s.size : Int) - 1) = true := by rw [beq_iff_eq]; omega
                  have G2 := Lib.hid g2
                  clear g2
                all_goals
                  go_wp2_with (go_at_call 153; refine (Put_c _ _ _ _ _ _ _ l1.out l2.out (by have := HW.out; omega) hrow.out (Nat.le_refl _)).mono ?_; intro e w3 hpp; obtain ⟨A3, c3, rfl, hc3, hr3, hb3⟩ := hpp.get; have HR3 := Lib.hid hr3; clear hr3 hpp)
                  have hbb := hb.trans (hb3.mono hb.size)
                  go_roundw
                  case rel => exact ⟨k + 1, _, 0, 1, c3, A3, by omega, by go_num, rfl, rfl, rfl, hc3, HR3, HST, Lib.hid (fun _ => ⟨rfl, rfl⟩), hbb⟩
                  case measure => simp [intOf]; omega
              · have hl : ((k : Int) == (s.size : Int) - 1) = false := by rw [beq_eq_false_iff_ne]; omega
                have hB := t19_no g1
                have G1 := Lib.hid g1
                have G2 := Lib.hid g2
                clear g1 g2
                go_wp2
                go_roundw
                case rel => exact ⟨k + 1, X, p', t10, c, A, by omega, by go_num, rfl, rfl, rfl, hc, hrow, Lib.hid (HKP.out G1.out), Lib.hid (fun h => absurd h G2.out), hb⟩
                case measure => simp [intOf]; omega
            · obtain rfl : k = s.size := by omega
              obtain ⟨rfl, rfl⟩ := hlast.out rfl
              have hX : X = preV s s.size := by have := hrd.out.1; rw [Nat.mul_one, Nat.add_zero] at this; exact this.symm
              have hXw : nd W X ≤ 39457 := by rw [hX]; exact Nat.le_trans (ndW_dec (dig_pre HD.out s.size (Nat.le_refl _))) hsz
              have HX := Lib.hid hX
              have HW := Lib.hid hXw
              clear hX hXw
              go_wp2_with (go_at_call 115; refine (made_c _ _ _ _ _ (by have := HW.out; omega) hrow.out (Nat.le_refl _)).mono ?_; rintro e w' ⟨rfl, hb'⟩)
              go_ret2
              exact ⟨by rw [← HX.out]; rfl, hb.trans (hb'.mono hb.size)⟩
end Go.Proofs.YtajcapliokblfaaGreatDoor
namespace Go.Proofs.YtajcapliokblfaaGreatDoor
open Go Go.RowKit Nt
theorem NRead_c (s : ByteArray) (w : World) (hs : s.size ≤ 9223372036854775807) (hv : Valid s) : Calls Tryz.prog 100 #[.string s] w (StrPost (resS (preV s s.size)) (resE (preV s s.size)) w) :=
  NRead_ok s w hs hv (fun hl => long_dec hv.2.1 hv.1 (fun c => hv.2.2 ⟨by omega, fun _ => c⟩) hl)
theorem NRead_no (s : ByteArray) (w : World) (hs : s.size ≤ 9223372036854775807) (hv : ¬ Valid s) : Calls Tryz.prog 100 #[.string s] w (StrPost ⟨#[]⟩ 22 w) := by
  by_cases h0 : s.size = 0
  · exact NRead_empty s w h0
  · have hp : 0 < s.size := by omega
    by_cases hn : 1 < s.size ∧ ∀ h : 0 < s.size, s[0].toNat = 48
    · exact NRead_nought s w hn.1 (hn.2 hp) hs
    · exact NRead_bad s w hs hp hn (fun hd => hv ⟨hp, hd, hn⟩)
end Go.Proofs.YtajcapliokblfaaGreatDoor
namespace Go.Proofs.YtajcapliokblfaaGreatDoor
open Go Go.RowKit Nt
theorem Own.set_ {w : World} {B g L cap : Nat} {T : TypeId} {k : IntKind} {l : List Nat} (h : Own w B T k (.slice (some ⟨g, 0, none⟩) L cap) l) (j x : Nat) :
    Own (w.setCell ⟨g, j, none⟩ (.int k (x : Nat))) B T k (.slice (some ⟨g, 0, none⟩) L cap) (l.set j x) := by
  have h1 := h.1
  rcases h.2 with ⟨e, _⟩ | ⟨g', cap', cur, e, hB, hh, hn, hm, hs, ht⟩
  · cases e
  · injection e with e1 e2 e3
    injection e1 with e1
    injection e1 with e1 _ _
    subst e1 e3
    refine ⟨by simp, Or.inr ⟨g, cap, cur.setIfInBounds j (.int k (x : Nat)), ?_, hB, Blk.set_ hh j _, ?_, hm, by simpa using hs, ?_⟩⟩
    · rw [List.length_set, e2]
    · rw [List.length_set]; exact hn
    · rw [List.length_set, Array.toList_setIfInBounds, List.take_set, ht, List.map_set]
theorem Own.far {w : World} {B : Nat} {T : TypeId} {k : IntKind} {v : Value} {l : List Nat} (h : Own w B T k v l) {p : Addr} (hp : p.block < B) (x : Value) : Own (w.setCell p x) B T k v l := by
  rcases h.2 with ⟨rfl, h0⟩ | ⟨g', cap', cur, e, hB, hh, hn, hm, hs, ht⟩
  · exact ⟨h.1, Or.inl ⟨rfl, h0⟩⟩
  · exact ⟨h.1, Or.inr ⟨g', cap', cur, e, hB, (Below.heap_setCell w p x g' (by omega)).trans hh, hn, hm, hs, ht⟩⟩
end Go.Proofs.YtajcapliokblfaaGreatDoor
namespace Go.Proofs.YtajcapliokblfaaGreatDoor
open Go Go.RowKit Nt
section
variable [Env]
theorem opt_lenS {t : TypeId} {A r : AV} {s : ByteArray} (ha : gval A = .string s) (hr : ground r = true) (hv : gval r = .int .i64 (s.size : Int)) : OpT Tryz.prog [6, 0, t, 9] [A] r := by
  refine ⟨hr, fun o xs hk ρ hρ hx w => ?_⟩
  unfold keyOf at hk
  obtain ⟨dst, o, type, pos, after, guard⟩ := o
  simp only at hk
  split at hk
  case h_7 b args argTypes =>
    cases b
    case len =>
      have hk' : (6 :: 0 :: type :: argTypes.toList, args.toList) = ([6, 0, t, 9], xs) := Option.some.inj hk
      have h3 : args.toList = xs := (Prod.mk.inj hk').2
      have hxx : args.map ρ = #[.string s] := by
        apply Array.ext'
        rw [Array.toList_map, h3, hx]
        simp [ha]
      simp only [execOp, resolve, Deferred.ofValue, Sem.run_bind, Sem.run_pure, Result.andThen_ok, invoke, hxx]
      have ha2 : argTypes = #[9] := Array.ext' (List.cons.inj (List.cons.inj (List.cons.inj (Prod.mk.inj hk').1).2).2).2
      rw [hv]
      simp [builtin, Builtin.len_, go_sem, ha2, run_underlying Tryz.underlying9]
    all_goals first
      | (have hk' := (List.cons.inj (List.cons.inj (Prod.mk.inj (Option.some.inj hk)).1).2).1; exact absurd hk' (by decide))
      | cases hk
  all_goals first
    | (simp only [Option.some.injEq, Prod.mk.injEq, List.cons.injEq] at hk; have := hk.1.1; omega)
    | cases hk
end
def Rx.nul : Rx := ⟨false, ⟨#[]⟩, ⟨#[]⟩⟩
open Classical in
@[irreducible] noncomputable def rtS (s : ByteArray) : ByteArray := if Valid s then resS (preV s s.size) else ⟨#[]⟩
open Classical in
@[irreducible] noncomputable def rtE (s : ByteArray) : Int := if Valid s then resE (preV s s.size) else 22
theorem PNRead_c (s : ByteArray) (w : World) (hs : s.size ≤ 9223372036854775807) : Calls Tryz.prog 100 #[.string s] w fun e w' => e = .returned (.tuple #[.string (rtS s), .int .i64 (rtE s)]) ∧ Below w.heap.size w w' := by
  unfold rtS rtE
  by_cases h : Valid s
  · rw [if_pos h, if_pos h]; exact NRead_c s w hs h
  · rw [if_neg h, if_neg h]; exact NRead_no s w hs h
theorem headB_size (c : UInt8) (s : ByteArray) : (headB c s).size ≤ s.size := by
  unfold headB; split
  · rw [ByteArray.size_extract]; omega
  · exact Nat.le_refl _
theorem tailB_size (c : UInt8) (s : ByteArray) : (tailB c s).size ≤ s.size := by
  unfold tailB; split
  · rw [ByteArray.size_extract]; omega
  · exact Nat.zero_le _
theorem offB_size (c : UInt8) (s : ByteArray) : (offB c s).size ≤ s.size := by
  unfold offB; split
  · rw [ByteArray.size_extract]; omega
  · exact Nat.le_refl _
noncomputable def rdX (s : ByteArray) : Rx := ⟨begB 45 s, rtS (headB 47 (offB 45 s)), if hasB 47 (offB 45 s) = true then rtS (tailB 47 (offB 45 s)) else ⟨#[1]⟩⟩
def rdOk (s : ByteArray) : Prop := rtE (headB 47 (offB 45 s)) = 0 ∧ (hasB 47 (offB 45 s) = true → rtE (tailB 47 (offB 45 s)) = 0 ∧ ¬ rtS (tailB 47 (offB 45 s)) = ⟨#[1]⟩) ∧ mayR (rdX s) = true
theorem rdX_t {s : ByteArray} (h : hasB 47 (offB 45 s) = true) : rdX s = ⟨begB 45 s, rtS (headB 47 (offB 45 s)), rtS (tailB 47 (offB 45 s))⟩ := by unfold rdX; rw [if_pos h]
theorem rdX_f {s : ByteArray} (h : ¬ hasB 47 (offB 45 s) = true) : rdX s = ⟨begB 45 s, rtS (headB 47 (offB 45 s)), ⟨#[1]⟩⟩ := by unfold rdX; rw [if_neg h]
open Classical in
@[irreducible] noncomputable def rdR (s : ByteArray) : Rx := if rdOk s then rdX s else Rx.nul
open Classical in
@[irreducible] noncomputable def rdE (s : ByteArray) : Int := if rdOk s then 0 else 40
theorem rd_ok {s : ByteArray} (h : rdOk s) : rdR s = rdX s ∧ rdE s = 0 := by unfold rdR rdE; rw [if_pos h, if_pos h]; exact ⟨rfl, rfl⟩
theorem rd_no {s : ByteArray} (h : ¬ rdOk s) : rdR s = Rx.nul ∧ rdE s = 40 := by unfold rdR rdE; rw [if_neg h, if_neg h]; exact ⟨rfl, rfl⟩
theorem ret_rx {a b : Rx} {e f : Int} (h : a = b ∧ e = f) : Ending.returned (.tuple #[.agg #[.bool b.g, .string b.s, .string b.t], .int .i64 f]) = .returned (.tuple #[.agg #[.bool a.g, .string a.s, .string a.t], .int .i64 e]) := by rw [h.1, h.2]
@[reducible] def PRead_long_f : FuncId := 45
@[reducible] def PRead_long_a : List AV := [.sym 0]
@[reducible] noncomputable def PRead_long_k (b1 b2 b3 b4 b5 b6 b7 : Bool) : Know := ⟨[([6, 0, 3, 9], [.sym 0], .sym 1),
  ([0, 15, 3], [.sym 1, .lit (.int .i64 80000)], .lit (.bool b1)),
  ([0, 12, 30], [.sym 7, .lit (.int .i64 0)], .lit (.bool (!b3))),
  ([0, 12, 30], [.sym 9, .lit (.int .i64 0)], .lit (.bool (!b4))),
  ([0, 11, 22], [.sym 8, .lit (.string ⟨#[1]⟩)], .lit (.bool b5))],
  [(98, [.sym 0, .lit (.string ⟨#[45]⟩)], .tup [.sym 2, .sym 3]),
  (99, [.sym 2, .lit (.string ⟨#[47]⟩)], .tup [.sym 4, .sym 5, .lit (.bool b2)]),
  (100, [.sym 4], .tup [.sym 6, .sym 7]),
  (100, [.sym 5], .tup [.sym 8, .sym 9]),
  (18, [.agg [.sym 3, .sym 6, .sym 8]], .lit (.bool b6)),
  (18, [.agg [.sym 3, .sym 6, .lit (.string ⟨#[1]⟩)]], .lit (.bool b7))]⟩
theorem PRead_long_r1 (b2 b3 b4 b5 b6 b7 : Bool) : @comes (PRead_long_k true b2 b3 b4 b5 b6 b7) Tryz.prog glT 3000 PRead_long_f PRead_long_a = some (.lit (.tuple #[.agg #[.bool false, .string ⟨#[]⟩, .string ⟨#[]⟩], .int .i64 4])) := by kernel_rfl
set_option maxRecDepth 100000 in
set_option maxHeartbeats 4000000 in
theorem PRead_long (s : ByteArray) (w : World) (hG : Globs glT w) (hl : 80000 < s.size) (hz : s.size ≤ 9223372036854775807) : Calls Tryz.prog 45 #[.string (s)] w fun e w' => e = .returned (.tuple #[.agg #[.bool false, .string ⟨#[]⟩, .string ⟨#[]⟩], .int .i64 4]) ∧ Below w.heap.size w w' := by
  obtain ⟨b1, i1⟩ := bex ((s.size : Int) > 80000)
  obtain ⟨b2, i2⟩ := bex (hasB 47 (offB 45 s) = true)
  obtain ⟨b3, i3⟩ := bex (rtE (headB 47 (offB 45 s)) = 0)
  obtain ⟨b4, i4⟩ := bex (rtE (tailB 47 (offB 45 s)) = 0)
  obtain ⟨b5, i5⟩ := bex (rtS (tailB 47 (offB 45 s)) = ⟨#[1]⟩)
  obtain ⟨b6, i6⟩ := bex (mayR (⟨(begB 45 s), (rtS (headB 47 (offB 45 s))), (rtS (tailB 47 (offB 45 s)))⟩ : Rx) = true)
  obtain ⟨b7, i7⟩ := bex (mayR (⟨(begB 45 s), (rtS (headB 47 (offB 45 s))), ⟨#[1]⟩⟩ : Rx) = true)
  letI : Env := mkEnv glT [.string (s), .int .i64 (s.size : Int), .string (offB 45 s), .bool (begB 45 s), .string (headB 47 (offB 45 s)), .string (tailB 47 (offB 45 s)), .string (rtS (headB 47 (offB 45 s))), .int .i64 (rtE (headB 47 (offB 45 s))), .string (rtS (tailB 47 (offB 45 s))), .int .i64 (rtE (tailB 47 (offB 45 s)))] rfl
  have hops : OpsT Tryz.prog (@Know.ops (PRead_long_k b1 b2 b3 b4 b5 b6 b7)) := ⟨opt_lenS rfl rfl rfl,
    opt_gtr_i rfl rfl i1,
    opt_neq_i rfl rfl i3,
    opt_neq_i rfl rfl i4,
    optS_eql_i rfl rfl i5,
    trivial⟩
  have hcalls : CallsT Tryz.prog (@Know.calls (PRead_long_k b1 b2 b3 b4 b5 b6 b7)) := ⟨callt rfl rfl fun w hG => PCutPrefix_c 45 s w,
    callt rfl rfl fun w hG => (by have hh := PCut_c 47 (offB 45 s) w (Nat.le_trans (offB_size 45 s) hz); rwa [← show _ = hasB 47 (offB 45 s) from Bool.eq_iff_iff.2 i2] at hh),
    callt rfl rfl fun w hG => PNRead_c (headB 47 (offB 45 s)) w (Nat.le_trans (headB_size 47 _) (Nat.le_trans (offB_size 45 s) hz)),
    callt rfl rfl fun w hG => PNRead_c (tailB 47 (offB 45 s)) w (Nat.le_trans (tailB_size 47 _) (Nat.le_trans (offB_size 45 s) hz)),
    callt rfl rfl fun w hG => (by have hh := PMay_any (⟨(begB 45 s), (rtS (headB 47 (offB 45 s))), (rtS (tailB 47 (offB 45 s)))⟩ : Rx) w; rwa [← show _ = mayR (⟨(begB 45 s), (rtS (headB 47 (offB 45 s))), (rtS (tailB 47 (offB 45 s)))⟩ : Rx) from Bool.eq_iff_iff.2 i6] at hh),
    callt rfl rfl fun w hG => (by have hh := PMay_any (⟨(begB 45 s), (rtS (headB 47 (offB 45 s))), ⟨#[1]⟩⟩ : Rx) w; rwa [← show _ = mayR (⟨(begB 45 s), (rtS (headB 47 (offB 45 s))), ⟨#[1]⟩⟩ : Rx) from Bool.eq_iff_iff.2 i7] at hh),
    trivial⟩
  have fin : ∀ v, @comes (PRead_long_k b1 b2 b3 b4 b5 b6 b7) Tryz.prog glT 3000 PRead_long_f PRead_long_a = some v → ground v = true → Ending.returned (gval v) = .returned (.tuple #[.agg #[.bool false, .string ⟨#[]⟩, .string ⟨#[]⟩], .int .i64 4]) → Calls Tryz.prog 45 #[.string (s)] w fun e w' => e = .returned (.tuple #[.agg #[.bool false, .string ⟨#[]⟩, .string ⟨#[]⟩], .int .i64 4]) ∧ Below w.heap.size w w' := fun v h1 h2 h3 => (@sym_ok _ (PRead_long_k b1 b2 b3 b4 b5 b6 b7) _ (@KnowOk.of _ (PRead_long_k b1 b2 b3 b4 b5 b6 b7) _ hops hcalls) (by kernel_rfl) _ _ _ _ h1 rfl h2 _ hG).mono fun e w' h => ⟨h.1.trans h3, h.2⟩
  clear hops hcalls
  cases b1 with
  | true =>
    have h1 : (s.size : Int) > 80000 := i1.1 rfl
    exact fin _ (PRead_long_r1 b2 b3 b4 b5 b6 b7) rfl rfl
  | false =>
    exact absurd (i1.2 ((by omega))) Bool.false_ne_true
@[reducible] def PRead_c_f : FuncId := 45
@[reducible] def PRead_c_a : List AV := [.sym 0]
@[reducible] noncomputable def PRead_c_k (b1 b2 b3 b4 b5 b6 b7 : Bool) : Know := ⟨[([6, 0, 3, 9], [.sym 0], .sym 1),
  ([0, 15, 3], [.sym 1, .lit (.int .i64 80000)], .lit (.bool b1)),
  ([0, 12, 30], [.sym 7, .lit (.int .i64 0)], .lit (.bool (!b3))),
  ([0, 12, 30], [.sym 9, .lit (.int .i64 0)], .lit (.bool (!b4))),
  ([0, 11, 22], [.sym 8, .lit (.string ⟨#[1]⟩)], .lit (.bool b5))],
  [(98, [.sym 0, .lit (.string ⟨#[45]⟩)], .tup [.sym 2, .sym 3]),
  (99, [.sym 2, .lit (.string ⟨#[47]⟩)], .tup [.sym 4, .sym 5, .lit (.bool b2)]),
  (100, [.sym 4], .tup [.sym 6, .sym 7]),
  (100, [.sym 5], .tup [.sym 8, .sym 9]),
  (18, [.agg [.sym 3, .sym 6, .sym 8]], .lit (.bool b6)),
  (18, [.agg [.sym 3, .sym 6, .lit (.string ⟨#[1]⟩)]], .lit (.bool b7))]⟩
theorem PRead_c_r1 (b6 b7 : Bool) : @comes (PRead_c_k false true true true true b6 b7) Tryz.prog glT 3000 PRead_c_f PRead_c_a = some (.lit (.tuple #[.agg #[.bool false, .string ⟨#[]⟩, .string ⟨#[]⟩], .int .i64 40])) := by kernel_rfl
theorem PRead_c_r2 (b7 : Bool) : @comes (PRead_c_k false true true true false true b7) Tryz.prog glT 3000 PRead_c_f PRead_c_a = some (.tup [.agg [.sym 3, .sym 6, .sym 8], .lit (.int .i64 0)]) := by kernel_rfl
theorem PRead_c_r3 (b7 : Bool) : @comes (PRead_c_k false true true true false false b7) Tryz.prog glT 3000 PRead_c_f PRead_c_a = some (.lit (.tuple #[.agg #[.bool false, .string ⟨#[]⟩, .string ⟨#[]⟩], .int .i64 40])) := by kernel_rfl
theorem PRead_c_r4 (b5 b6 b7 : Bool) : @comes (PRead_c_k false true true false b5 b6 b7) Tryz.prog glT 3000 PRead_c_f PRead_c_a = some (.lit (.tuple #[.agg #[.bool false, .string ⟨#[]⟩, .string ⟨#[]⟩], .int .i64 40])) := by kernel_rfl
theorem PRead_c_r5 (b4 b5 b6 b7 : Bool) : @comes (PRead_c_k false true false b4 b5 b6 b7) Tryz.prog glT 3000 PRead_c_f PRead_c_a = some (.lit (.tuple #[.agg #[.bool false, .string ⟨#[]⟩, .string ⟨#[]⟩], .int .i64 40])) := by kernel_rfl
theorem PRead_c_r6 (b4 b5 b6 : Bool) : @comes (PRead_c_k false false true b4 b5 b6 true) Tryz.prog glT 3000 PRead_c_f PRead_c_a = some (.tup [.agg [.sym 3, .sym 6, .lit (.string ⟨#[1]⟩)], .lit (.int .i64 0)]) := by kernel_rfl
theorem PRead_c_r7 (b4 b5 b6 : Bool) : @comes (PRead_c_k false false true b4 b5 b6 false) Tryz.prog glT 3000 PRead_c_f PRead_c_a = some (.lit (.tuple #[.agg #[.bool false, .string ⟨#[]⟩, .string ⟨#[]⟩], .int .i64 40])) := by kernel_rfl
theorem PRead_c_r8 (b4 b5 b6 b7 : Bool) : @comes (PRead_c_k false false false b4 b5 b6 b7) Tryz.prog glT 3000 PRead_c_f PRead_c_a = some (.lit (.tuple #[.agg #[.bool false, .string ⟨#[]⟩, .string ⟨#[]⟩], .int .i64 40])) := by kernel_rfl
set_option maxRecDepth 100000 in
set_option maxHeartbeats 4000000 in
theorem PRead_c (s : ByteArray) (w : World) (hG : Globs glT w) (hl : s.size ≤ 80000) (hz : s.size ≤ 9223372036854775807) : Calls Tryz.prog 45 #[.string (s)] w fun e w' => e = .returned (.tuple #[.agg #[.bool (rdR s).g, .string (rdR s).s, .string (rdR s).t], .int .i64 (rdE s)]) ∧ Below w.heap.size w w' := by
  obtain ⟨b1, i1⟩ := bex ((s.size : Int) > 80000)
  obtain ⟨b2, i2⟩ := bex (hasB 47 (offB 45 s) = true)
  obtain ⟨b3, i3⟩ := bex (rtE (headB 47 (offB 45 s)) = 0)
  obtain ⟨b4, i4⟩ := bex (rtE (tailB 47 (offB 45 s)) = 0)
  obtain ⟨b5, i5⟩ := bex (rtS (tailB 47 (offB 45 s)) = ⟨#[1]⟩)
  obtain ⟨b6, i6⟩ := bex (mayR (⟨(begB 45 s), (rtS (headB 47 (offB 45 s))), (rtS (tailB 47 (offB 45 s)))⟩ : Rx) = true)
  obtain ⟨b7, i7⟩ := bex (mayR (⟨(begB 45 s), (rtS (headB 47 (offB 45 s))), ⟨#[1]⟩⟩ : Rx) = true)
  letI : Env := mkEnv glT [.string (s), .int .i64 (s.size : Int), .string (offB 45 s), .bool (begB 45 s), .string (headB 47 (offB 45 s)), .string (tailB 47 (offB 45 s)), .string (rtS (headB 47 (offB 45 s))), .int .i64 (rtE (headB 47 (offB 45 s))), .string (rtS (tailB 47 (offB 45 s))), .int .i64 (rtE (tailB 47 (offB 45 s)))] rfl
  have hops : OpsT Tryz.prog (@Know.ops (PRead_c_k b1 b2 b3 b4 b5 b6 b7)) := ⟨opt_lenS rfl rfl rfl,
    opt_gtr_i rfl rfl i1,
    opt_neq_i rfl rfl i3,
    opt_neq_i rfl rfl i4,
    optS_eql_i rfl rfl i5,
    trivial⟩
  have hcalls : CallsT Tryz.prog (@Know.calls (PRead_c_k b1 b2 b3 b4 b5 b6 b7)) := ⟨callt rfl rfl fun w hG => PCutPrefix_c 45 s w,
    callt rfl rfl fun w hG => (by have hh := PCut_c 47 (offB 45 s) w (Nat.le_trans (offB_size 45 s) hz); rwa [← show _ = hasB 47 (offB 45 s) from Bool.eq_iff_iff.2 i2] at hh),
    callt rfl rfl fun w hG => PNRead_c (headB 47 (offB 45 s)) w (Nat.le_trans (headB_size 47 _) (Nat.le_trans (offB_size 45 s) hz)),
    callt rfl rfl fun w hG => PNRead_c (tailB 47 (offB 45 s)) w (Nat.le_trans (tailB_size 47 _) (Nat.le_trans (offB_size 45 s) hz)),
    callt rfl rfl fun w hG => (by have hh := PMay_any (⟨(begB 45 s), (rtS (headB 47 (offB 45 s))), (rtS (tailB 47 (offB 45 s)))⟩ : Rx) w; rwa [← show _ = mayR (⟨(begB 45 s), (rtS (headB 47 (offB 45 s))), (rtS (tailB 47 (offB 45 s)))⟩ : Rx) from Bool.eq_iff_iff.2 i6] at hh),
    callt rfl rfl fun w hG => (by have hh := PMay_any (⟨(begB 45 s), (rtS (headB 47 (offB 45 s))), ⟨#[1]⟩⟩ : Rx) w; rwa [← show _ = mayR (⟨(begB 45 s), (rtS (headB 47 (offB 45 s))), ⟨#[1]⟩⟩ : Rx) from Bool.eq_iff_iff.2 i7] at hh),
    trivial⟩
  have fin : ∀ v, @comes (PRead_c_k b1 b2 b3 b4 b5 b6 b7) Tryz.prog glT 3000 PRead_c_f PRead_c_a = some v → ground v = true → Ending.returned (gval v) = .returned (.tuple #[.agg #[.bool (rdR s).g, .string (rdR s).s, .string (rdR s).t], .int .i64 (rdE s)]) → Calls Tryz.prog 45 #[.string (s)] w fun e w' => e = .returned (.tuple #[.agg #[.bool (rdR s).g, .string (rdR s).s, .string (rdR s).t], .int .i64 (rdE s)]) ∧ Below w.heap.size w w' := fun v h1 h2 h3 => (@sym_ok _ (PRead_c_k b1 b2 b3 b4 b5 b6 b7) _ (@KnowOk.of _ (PRead_c_k b1 b2 b3 b4 b5 b6 b7) _ hops hcalls) (by kernel_rfl) _ _ _ _ h1 rfl h2 _ hG).mono fun e w' h => ⟨h.1.trans h3, h.2⟩
  clear hops hcalls
  cases b1 with
  | true =>
    exact absurd (i1.1 rfl) ((by omega))
  | false =>
    have h1 : ¬ ((s.size : Int) > 80000) := fun c => Bool.false_ne_true (i1.2 c)
    cases b2 with
    | true =>
      have h2 : hasB 47 (offB 45 s) = true := i2.1 rfl
      cases b3 with
      | true =>
        have h3 : rtE (headB 47 (offB 45 s)) = 0 := i3.1 rfl
        cases b4 with
        | true =>
          have h4 : rtE (tailB 47 (offB 45 s)) = 0 := i4.1 rfl
          cases b5 with
          | true =>
            have h5 : rtS (tailB 47 (offB 45 s)) = ⟨#[1]⟩ := i5.1 rfl
            exact fin _ (PRead_c_r1 b6 b7) rfl (show Ending.returned (.tuple #[.agg #[.bool false, .string ⟨#[]⟩, .string ⟨#[]⟩], .int .i64 40]) = .returned (.tuple #[.agg #[.bool (rdR s).g, .string (rdR s).s, .string (rdR s).t], .int .i64 (rdE s)]) from (ret_rx (rd_no (fun c => (c.2.1 h2).2 h5))))
          | false =>
            have h5 : ¬ (rtS (tailB 47 (offB 45 s)) = ⟨#[1]⟩) := fun c => Bool.false_ne_true (i5.2 c)
            cases b6 with
            | true =>
              have h6 : mayR (⟨(begB 45 s), (rtS (headB 47 (offB 45 s))), (rtS (tailB 47 (offB 45 s)))⟩ : Rx) = true := i6.1 rfl
              exact fin _ (PRead_c_r2 b7) rfl (show Ending.returned (.tuple #[.agg #[.bool (begB 45 s), .string (rtS (headB 47 (offB 45 s))), .string (rtS (tailB 47 (offB 45 s)))], .int .i64 0]) = .returned (.tuple #[.agg #[.bool (rdR s).g, .string (rdR s).s, .string (rdR s).t], .int .i64 (rdE s)]) from (ret_rx ⟨(rd_ok ⟨h3, (fun _ => ⟨h4, h5⟩), by rw [rdX_t h2]; exact h6⟩).1.trans (rdX_t h2), (rd_ok ⟨h3, (fun _ => ⟨h4, h5⟩), by rw [rdX_t h2]; exact h6⟩).2⟩))
            | false =>
              have h6 : ¬ (mayR (⟨(begB 45 s), (rtS (headB 47 (offB 45 s))), (rtS (tailB 47 (offB 45 s)))⟩ : Rx) = true) := fun c => Bool.false_ne_true (i6.2 c)
              exact fin _ (PRead_c_r3 b7) rfl (show Ending.returned (.tuple #[.agg #[.bool false, .string ⟨#[]⟩, .string ⟨#[]⟩], .int .i64 40]) = .returned (.tuple #[.agg #[.bool (rdR s).g, .string (rdR s).s, .string (rdR s).t], .int .i64 (rdE s)]) from (ret_rx (rd_no (fun c => h6 (by have hh := c.2.2; rwa [rdX_t h2] at hh)))))
        | false =>
          have h4 : ¬ (rtE (tailB 47 (offB 45 s)) = 0) := fun c => Bool.false_ne_true (i4.2 c)
          exact fin _ (PRead_c_r4 b5 b6 b7) rfl (show Ending.returned (.tuple #[.agg #[.bool false, .string ⟨#[]⟩, .string ⟨#[]⟩], .int .i64 40]) = .returned (.tuple #[.agg #[.bool (rdR s).g, .string (rdR s).s, .string (rdR s).t], .int .i64 (rdE s)]) from (ret_rx (rd_no (fun c => h4 (c.2.1 h2).1))))
      | false =>
        have h3 : ¬ (rtE (headB 47 (offB 45 s)) = 0) := fun c => Bool.false_ne_true (i3.2 c)
        exact fin _ (PRead_c_r5 b4 b5 b6 b7) rfl (show Ending.returned (.tuple #[.agg #[.bool false, .string ⟨#[]⟩, .string ⟨#[]⟩], .int .i64 40]) = .returned (.tuple #[.agg #[.bool (rdR s).g, .string (rdR s).s, .string (rdR s).t], .int .i64 (rdE s)]) from (ret_rx (rd_no (fun c => h3 c.1))))
    | false =>
      have h2 : ¬ (hasB 47 (offB 45 s) = true) := fun c => Bool.false_ne_true (i2.2 c)
      cases b3 with
      | true =>
        have h3 : rtE (headB 47 (offB 45 s)) = 0 := i3.1 rfl
        cases b7 with
        | true =>
          have h7 : mayR (⟨(begB 45 s), (rtS (headB 47 (offB 45 s))), ⟨#[1]⟩⟩ : Rx) = true := i7.1 rfl
          exact fin _ (PRead_c_r6 b4 b5 b6) rfl (show Ending.returned (.tuple #[.agg #[.bool (begB 45 s), .string (rtS (headB 47 (offB 45 s))), .string ⟨#[1]⟩], .int .i64 0]) = .returned (.tuple #[.agg #[.bool (rdR s).g, .string (rdR s).s, .string (rdR s).t], .int .i64 (rdE s)]) from (ret_rx ⟨(rd_ok ⟨h3, (fun c => absurd c h2), by rw [rdX_f h2]; exact h7⟩).1.trans (rdX_f h2), (rd_ok ⟨h3, (fun c => absurd c h2), by rw [rdX_f h2]; exact h7⟩).2⟩))
        | false =>
          have h7 : ¬ (mayR (⟨(begB 45 s), (rtS (headB 47 (offB 45 s))), ⟨#[1]⟩⟩ : Rx) = true) := fun c => Bool.false_ne_true (i7.2 c)
          exact fin _ (PRead_c_r7 b4 b5 b6) rfl (show Ending.returned (.tuple #[.agg #[.bool false, .string ⟨#[]⟩, .string ⟨#[]⟩], .int .i64 40]) = .returned (.tuple #[.agg #[.bool (rdR s).g, .string (rdR s).s, .string (rdR s).t], .int .i64 (rdE s)]) from (ret_rx (rd_no (fun c => h7 (by have hh := c.2.2; rwa [rdX_f h2] at hh)))))
      | false =>
        have h3 : ¬ (rtE (headB 47 (offB 45 s)) = 0) := fun c => Bool.false_ne_true (i3.2 c)
        exact fin _ (PRead_c_r8 b4 b5 b6 b7) rfl (show Ending.returned (.tuple #[.agg #[.bool false, .string ⟨#[]⟩, .string ⟨#[]⟩], .int .i64 40]) = .returned (.tuple #[.agg #[.bool (rdR s).g, .string (rdR s).s, .string (rdR s).t], .int .i64 (rdE s)]) from (ret_rx (rd_no (fun c => h3 c.1))))
end Go.Proofs.YtajcapliokblfaaGreatDoor
namespace Go.Proofs.YtajcapliokblfaaGreatDoor
open Go Go.RowKit Nt
theorem BR.low {w : World} {l : List C3} {W : World} (h : BR w l W) : Below w.heap.size w W := h.1
end Go.Proofs.YtajcapliokblfaaGreatDoor
namespace Go.Proofs.YtajcapliokblfaaGreatDoor
open Go Go.RowKit Nt
theorem offB_f {c : UInt8} {s : ByteArray} (h : ¬ begB c s = true) : offB c s = s := by unfold offB; rw [if_neg h]
theorem ba_eq {a b : ByteArray} (h : a.data.toList = b.data.toList) : a = b := ByteArray.ext (Array.ext' h)
theorem ba_app (a b : ByteArray) : (a ++ b).data.toList = a.data.toList ++ b.data.toList := by rw [ByteArray.data_append, Array.toList_append]
theorem ba_ext (s : ByteArray) (i j : Nat) : (s.extract i j).data.toList = (s.data.toList.drop i).take (j - i) := by rw [ByteArray.data_extract, Array.toList_extract, List.extract_eq_take_drop]
theorem ba_from (s : ByteArray) (i : Nat) : (s.extract i s.size).data.toList = s.data.toList.drop i := by
  rw [ba_ext, List.take_of_length_le]
  rw [List.length_drop]; exact Nat.le_refl _
theorem ba_upto (s : ByteArray) (i : Nat) : (s.extract 0 i).data.toList = s.data.toList.take i := by rw [ba_ext, List.drop_zero, Nat.sub_zero]
theorem ba_one (c : UInt8) : (ByteArray.mk #[c]).data.toList = [c] := rfl
theorem ba_get (s : ByteArray) (i : Nat) (h : i < s.size) : s.data.toList.drop i = s[i] :: s.data.toList.drop (i + 1) := List.drop_eq_getElem_cons (l := s.data.toList) h
theorem cut_split (c : UInt8) (u : ByteArray) : (hasB c u = true → headB c u ++ (⟨#[c]⟩ ++ tailB c u) = u) ∧ (¬ hasB c u = true → headB c u = u) := by
  refine ⟨fun h => ?_, fun h => by unfold headB; rw [if_neg h]⟩
  have hi := hasB_iff.1 h
  have e := (ixB_get c u _ hi).2 rfl
  unfold headB tailB
  rw [if_pos h, if_pos h]
  apply ba_eq
  rw [ba_app, ba_app, ba_from, ba_upto, ba_one]
  have h2 := ba_get u _ hi
  rw [e] at h2
  show u.data.toList.take _ ++ (c :: u.data.toList.drop _) = _
  rw [← h2, List.take_append_drop]
end Go.Proofs.YtajcapliokblfaaGreatDoor
namespace Go.Proofs.YtajcapliokblfaaGreatDoor
open Go Go.RowKit Nt
def isDgB (c : UInt8) : Bool := decide (48 ≤ c.toNat ∧ c.toNat ≤ 57)
theorem tw_get {α : Type} (p : α → Bool) (l : List α) : (∀ k (h : k < l.length), k < (l.takeWhile p).length → p l[k] = true) ∧ (∀ h : (l.takeWhile p).length < l.length, p l[(l.takeWhile p).length] = false) ∧ (l.takeWhile p).length ≤ l.length := by
  induction l with
  | nil => exact ⟨fun k h => absurd h (Nat.not_lt_zero _), fun h => absurd h (Nat.not_lt_zero _), Nat.le_refl _⟩
  | cons b l ih =>
    obtain ⟨i1, i2, i3⟩ := ih
    cases hp : p b
    · have e : (b :: l).takeWhile p = [] := by rw [List.takeWhile_cons, hp]; rfl
      simp only [e, List.length_nil]
      exact ⟨fun k h hk => absurd hk (Nat.not_lt_zero _), fun h => hp, Nat.zero_le _⟩
    · have e : (b :: l).takeWhile p = b :: l.takeWhile p := by rw [List.takeWhile_cons, hp]; rfl
      simp only [e, List.length_cons]
      refine ⟨fun k h hk => ?_, fun h => ?_, by omega⟩
      · cases k with
        | zero => exact hp
        | succ k => exact i1 k (by simpa using h) (by omega)
      · exact i2 (by omega)
@[irreducible] def zE (t : ByteArray) (i : Nat) : Nat := i + ((t.data.toList.drop i).takeWhile isDgB).length
theorem zE_ge (t : ByteArray) (i : Nat) : i ≤ zE t i := by unfold zE; omega
theorem zE_le (t : ByteArray) (i : Nat) (h : i ≤ t.size) : zE t i ≤ t.size := by
  have := (tw_get isDgB (t.data.toList.drop i)).2.2
  rw [List.length_drop] at this
  have e : t.data.toList.length = t.size := rfl
  unfold zE; omega
theorem zE_in (t : ByteArray) (i k : Nat) (h1 : i ≤ k) (h2 : k < zE t i) (h : k < t.size) : isDgB t[k] = true := by
  have e : t.data.toList.length = t.size := rfl
  unfold zE at h2
  have := (tw_get isDgB (t.data.toList.drop i)).1 (k - i) (by rw [List.length_drop]; omega) (by omega)
  rw [List.getElem_drop] at this
  have e2 : t.data.toList[i + (k - i)]'(by omega) = t[k] := by
    show t.data.toList[i + (k - i)]'(by omega) = t.data.toList[k]'(by omega)
    congr 1; omega
  rwa [e2] at this
theorem zE_out (t : ByteArray) (i : Nat) (h0 : i ≤ t.size) (h : zE t i < t.size) : isDgB t[zE t i] = false := by
  have e : t.data.toList.length = t.size := rfl
  have h2 := h
  unfold zE at h2
  have := (tw_get isDgB (t.data.toList.drop i)).2.1 (by rw [List.length_drop]; omega)
  rw [List.getElem_drop] at this
  have e2 : t.data.toList[i + ((t.data.toList.drop i).takeWhile isDgB).length]'(by omega) = t[zE t i] := by
    show _ = t.data.toList[zE t i]'(by omega)
    congr 1
    unfold zE; rfl
  rwa [e2] at this
def isAt (t : ByteArray) (k : Nat) (c : Nat) : Prop := ∃ h : k < t.size, t[k].toNat = c
noncomputable section
open Classical
@[irreducible] def zN (t : ByteArray) : Nat := zE t 0
@[irreducible] def zPt (t : ByteArray) : Bool := decide (isAt t (zN t) 46)
@[irreducible] def zM (t : ByteArray) : Nat := if zPt t = true then zE t (zN t + 1) else zN t
@[irreducible] def zX (t : ByteArray) : Bool := decide (isAt t (zM t) 101)
@[irreducible] def zL (t : ByteArray) : Bool := decide (isAt t (zM t) 101 ∧ isAt t (zM t + 1) 45)
@[irreducible] def zJ (t : ByteArray) : Nat := if zL t = true then zM t + 2 else zM t + 1
def zOk (t : ByteArray) : Prop := 0 < zN t ∧ (zN t = 1 ∨ ¬ isAt t 0 48) ∧ (zPt t = true → zN t + 1 < zM t) ∧ (¬ zX t = true → zM t = t.size) ∧
  (zX t = true → zJ t < t.size ∧ zE t (zJ t) = t.size ∧ (isAt t (zJ t) 48 → zL t = false ∧ t.size = zJ t + 1))
@[irreducible] def zD (t : ByteArray) : ByteArray := t.extract 0 (zN t) ++ (if zPt t = true then t.extract (zN t + 1) (zM t) else ⟨#[]⟩)
@[irreducible] def zB (t : ByteArray) : Nat := if zPt t = true then zM t - (zN t + 1) else 0
@[irreducible] def zP (t : ByteArray) : ByteArray := if zX t = true then t.extract (zJ t) t.size else ⟨#[]⟩
end
def Exit.jumps (J : Nat → Act → World → Prop) (Q : Exit → Act → World → Prop) : Exit → Act → World → Prop
  | .goto l', a, w => J l' a w
  | e, a, w => Q e a w
theorem wp_scope_labels {P : Program} {a : Act} {w : World} {Q : Exit → Act → World → Prop} {c : Code} (J : Nat → Act → World → Prop) (μ : Nat → Act → World → Nat)
    (first : c.wp P (Exit.jumps J Q) a w)
    (pass : ∀ l a w, J l a w → ∃ rest, findLabel c l = some rest ∧ rest.wp P (Exit.jumps (fun l' a' w' => J l' a' w' ∧ μ l' a' w' < μ l a w) Q) a w) : (Code.scope c).wp P Q a w := by
  intro b k cs
  have key : ∀ n l a w, μ l a w = n → J l a w → ∃ rest, findLabel c l = some rest ∧ ∃ e a' w', Q e a' w' ∧ Arrives P (lone (b.at a (.code rest :: .inScope c :: k)) cs w) b k cs e a' w' := by
    intro n
    induction n using Nat.strongRecOn with
    | _ n ih =>
      intro l a w hn hJ
      obtain ⟨rest, hf, hp⟩ := pass l a w hJ
      refine ⟨rest, hf, ?_⟩
      obtain ⟨e, a₁, w₁, hq, harr⟩ := hp b (.inScope c :: k) cs
      cases e with
      | normal => exact ⟨.normal, a₁, w₁, hq, Steps.trans harr (.one step_inScope)⟩
      | exit id => exact ⟨.exit id, a₁, w₁, hq, fun k' hk => harr k' (by simp [exitTo, hk])⟩
      | goto l' =>
        obtain ⟨hJ', hlt⟩ := hq
        obtain ⟨rest', hf', e₂, a₂, w₂, hq₂, harr₂⟩ := ih _ (by omega) l' a₁ w₁ rfl hJ'
        have hg : gotoIn l' (.inScope c :: k) = some (.code rest' :: .inScope c :: k) := by simp [gotoIn, hf']
        exact ⟨e₂, a₂, w₂, hq₂, .of_steps (harr _ hg) harr₂⟩
      | ret => exact ⟨_, a₁, w₁, hq, harr⟩
      | panic ch => exact ⟨_, a₁, w₁, hq, harr⟩
      | outgrown => exact ⟨_, a₁, w₁, hq, harr⟩
  obtain ⟨e, a₁, w₁, hq, harr⟩ := first b (.inScope c :: k) cs
  cases e with
  | normal => exact ⟨.normal, a₁, w₁, hq, .head step_scope (Steps.trans harr (.one step_inScope))⟩
  | exit id => exact ⟨.exit id, a₁, w₁, hq, fun k' hk => .head step_scope (harr k' (by simp [exitTo, hk]))⟩
  | goto l' =>
    obtain ⟨rest', hf', e₂, a₂, w₂, hq₂, harr₂⟩ := key _ l' a₁ w₁ rfl hq
    have hg : gotoIn l' (.inScope c :: k) = some (.code rest' :: .inScope c :: k) := by simp [gotoIn, hf']
    exact ⟨e₂, a₂, w₂, hq₂, .of_steps (.head step_scope (harr _ hg)) harr₂⟩
  | ret => exact ⟨_, a₁, w₁, hq, .of_steps (.one step_scope) harr⟩
  | panic ch => exact ⟨_, a₁, w₁, hq, .of_steps (.one step_scope) harr⟩
  | outgrown => exact ⟨_, a₁, w₁, hq, .of_steps (.one step_scope) harr⟩
end Go.Proofs.YtajcapliokblfaaGreatDoor
