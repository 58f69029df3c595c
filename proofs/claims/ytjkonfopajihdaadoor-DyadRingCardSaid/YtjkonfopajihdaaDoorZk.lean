/- Texts put together: D14 D15 D16 D17. -/
import Derived.Test.YtjkonfopajihdaaDoorZj
import Derived.Test.YtjkonfopajihdaaDoorZc
set_option linter.unusedSimpArgs false
set_option linter.unusedVariables false
namespace Go.Proofs.YtjkonfopajihdaaDoor
open Go Go.RowKit Nt

/-- The digits of a number, as cells. -/
def dcell3 (n L : Nat) : Array Value := fcells .i64 (dgt 256 n) L
theorem dcell3_get (n L j : Nat) (h : j < L) : (dcell3 n L)[j]? = some (.int .i64 (dgt 256 n j : Nat)) := fcells_get _ _ _ _ h
theorem dcell3_set (n L i v : Nat) (hv : v < 256) : (dcell3 n L).setIfInBounds i (.int .i64 (v : Nat)) = dcell3 (put 256 n i v) L := by
  unfold dcell3
  rw [fcells_set]
  exact fcells_congr fun j _ => (dgt_put (by omega) n i v j hv).symm
theorem dcell3_made (L : Nat) : madeCells #[.int .i64 0] L = dcell3 0 L := by
  unfold dcell3
  rw [fcells_made]
  exact fcells_congr fun j _ => by rw [dgt_def, Nat.zero_div]
theorem Own.of_fcells3 {w : World} {B g : Nat} {T : TypeId} {k : IntKind} {f : Nat → Nat} {L : Nat} (h : Blk w g T (fcells k f L)) (hB : B ≤ g) (hL : L ≤ 1000000000) :
    Own w B T k (.slice (some ⟨g, 0, none⟩) L L) ((List.range L).map f) := by
  have hlen : ((List.range L).map f).length = L := by simp
  unfold Own
  rw [hlen]
  refine ⟨by simp, Or.inr ⟨g, L, fcells k f L, rfl, hB, h, Nat.le_refl _, by unfold maxLen; omega, by rw [fcells_size, Nat.mul_one], ?_⟩⟩
  rw [fcells_list3, Nat.mul_one]
  exact List.take_of_length_le (by simp)
theorem nd_mul3 (x y : Nat) : nd 256 (x * y) ≤ nd 256 x + nd 256 y := by
  refine nd_le (by omega) ?_
  have h := Nat.mul_lt_mul'' (lt_nd (b := 256) (n := x) (by omega)) (lt_nd (b := 256) (n := y) (by omega))
  rwa [← Nat.pow_add] at h
set_option maxRecDepth 100000 in
set_option maxHeartbeats 1000000 in
theorem rTimes3_c (x y B B' : Nat) (A1 A2 : Option Addr) (c1 c2 : Nat) (w : World) (hx : nd 256 x ≤ 1000000) (hy : nd 256 y ≤ 1000000) (h : Own w B 3 .i64 (.slice A1 (nd 256 x) c1) (dl 256 x (nd 256 x))) (h' : Own w B' 3 .i64 (.slice A2 (nd 256 y) c2) (dl 256 y (nd 256 y))) :
    Calls Tryd.prog 89 #[.slice A1 (nd 256 x) c1, .slice A2 (nd 256 y) c2] w (BigP (x * y) w) := by
  obtain ⟨i0, hi0, hz0, hj1, hj2⟩ := info_parts (P := Tryd.prog) (e := 3) (z := .int .i64 0) (size := 1) (bytes := 8) (by kernel_rfl)
  obtain ⟨X, hX⟩ : ∃ X, X = nd 256 x := ⟨_, rfl⟩
  obtain ⟨Y, hY⟩ : ∃ Y, Y = nd 256 y := ⟨_, rfl⟩
  obtain ⟨L, hL⟩ : ∃ L, L = X + Y + 1 := ⟨_, rfl⟩
  rw [← hX] at h hx ⊢
  rw [← hY] at h' hy ⊢
  have HX := Lib.hid hX
  have HY := Lib.hid hY
  have HL := Lib.hid hL
  have HO3 := Lib.hid h
  have HO2 := Lib.hid h'
  have hLI : ((X : Int) + (Y : Int) + 1) = (L : Int) := by omega
  have hL2 : L ≤ 3000000 := by omega
  clear hX hY hL h h'
  go_enter Tryd.func89, Tryd.ntmps89
  go_wp2_with (at_make; go_loud (refine wpList_make_zero _ rfl _ _ _ rfl 3 i0 _ Tryd.underlying78 hi0 hz0 hj1 .i64 .i64 _ _ L rfl rfl (by omega) (by omega) (by rw [hj2]; omega) (by unfold maxLen; omega) ?_))
  rw [dcell3_made]
  have HB0 := Lib.hid (Blk.new w 3 (dcell3 0 L))
  have hbl : Below w.heap.size w (w.alloc (.cells (dcell3 0 L) 3)) := (Below.refl _ _).alloc (Nat.le_refl _) _
  generalize w.alloc (.cells (dcell3 0 L) 3) = w3 at *
  obtain ⟨g, hg⟩ : ∃ g, g = w.heap.size := ⟨_, rfl⟩
  rw [← hg] at HB0 hbl ⊢
  have HG := Lib.hid hg
  clear hg
  go_loopw [6] (fun i wr => ∃ (k Z : Nat), k ≤ X ∧ i = .int .i64 k ∧ Hid (Z = x % 256 ^ k * y) ∧ Hid (Blk wr g 3 (dcell3 Z L)) ∧ Below g w wr) (fun i _ => X - (intOf i).toNat)
  case atStart => exact ⟨0, 0, by omega, rfl, Lib.hid (by rw [Nat.pow_zero, Nat.mod_one, Nat.zero_mul]), HB0, hbl⟩
  case round =>
    obtain ⟨i, Z, hi, rfl, hZ, hblk, hb⟩ := hrel
    by_cases hlt : i < X
    · have ha := dgt_lt (b := 256) (by omega) x i
      have HT := Lib.hid (tms_first x y i)
      rw [← hZ.out] at HT
      go_wp2_with fail
      go_loopw [7, 8] (fun m kk wr' => ∃ (k q Z' : Nat), k ≤ Y + 1 ∧ kk = .int .i64 k ∧ m = .int .i64 q ∧ q ≤ 255 ∧ Hid (tms x y i k Z' q) ∧ Hid (Blk wr' g 3 (dcell3 Z' L)) ∧ Below g w wr') (fun _ kk _ => Y + 1 - (intOf kk).toNat)
      case atStart => exact ⟨0, 0, Z, by omega, rfl, rfl, by omega, HT, hblk, hb⟩
      case round =>
        obtain ⟨k, q, Z', hk, rfl, rfl, hq, htm, hblk', hbw⟩ := hrel
        by_cases hstop : Y ≤ k ∧ q = 0
        · obtain ⟨h1, rfl⟩ := hstop
          have h1' : ¬ k < Y := by omega
          have HN := Lib.hid (tms_last htm.out (by have := HY.out; omega))
          go_wp2_with fail
          go_roundw
          case rel => exact ⟨i + 1, Z', by omega, by go_num, HN, hblk', hbw⟩
          case measure => simp [intOf]; omega
        · have hkY : k ≤ Y := by
            rcases Nat.lt_or_ge Y k with c | c
            · have := tms_more htm.out (by have := HY.out; omega) (fun c2 => hstop ⟨by omega, c2⟩)
              have := HY.out; omega
            · exact c
          obtain ⟨p, hp⟩ : ∃ p, p = i + k := ⟨_, rfl⟩
          have hpI : (i : Int) + (k : Int) = (p : Int) := by omega
          have hpL : p < L := by have := HL.out; omega
          have hzd := dgt_lt (b := 256) (by omega) Z' p
          have hyd := dgt_lt (b := 256) (by omega) y k
          have hcz := hblk'.out.cell p
          rw [dcell3_get _ _ _ hpL] at hcz
          have hfz := hblk'.out.frozen p
          obtain ⟨ga, cap, e1, _, hga, hcx, hfx⟩ := (HO3.out.below hbw (fun g' e => by have := (HO3.out.lt g' e).2; have := HG.out; omega)).cell (j := i) (by rw [dl_length]; exact hlt)
          injection e1 with e1 e2 e3
          subst e1
          rw [dlget3] at hcx
          have K2 := fun m => rAt3_c y Y k _ A2 c2 (wr.drewN m) (by have := HY.out; omega) (by omega) (by omega) ((HO2.out.below hbw (fun g' e => by have := (HO2.out.lt g' e).2; have := HG.out; omega)).drewN m)
          obtain ⟨s, hs⟩ : ∃ s, s = q + dgt 256 Z' p + dgt 256 x i * dgt 256 y k := ⟨_, rfl⟩
          have hst := tms_step htm.out (s := s) (by rw [hs, hp])
          rw [← hp] at hst
          have hsm := tms_next hq hzd ha hyd
          rw [← hs] at hsm
          have HST := Lib.hid hst
          have HP := Lib.hid hp
          generalize dgt 256 Z' p = z at *
          generalize dgt 256 y k = b at *
          generalize dgt 256 x i = a at *
          obtain ⟨ab, hab⟩ : ∃ ab, ab = a * b := ⟨_, rfl⟩
          have habI : (a : Int) * (b : Int) = (ab : Int) := by rw [hab, Int.natCast_mul]
          rw [← hab] at hsm hs
          have hsI : (q : Int) + (z : Int) + (ab : Int) = (s : Int) := by omega
          have hw1 : IntKind.i64.wrap ((i : Int) + (k : Int)) = (p : Int) := by rw [IntWalk.i64_in _ (by omega)]; omega
          have hw3 : IntKind.i64.wrap ((a : Int) * (b : Int)) = (ab : Int) := by rw [habI, IntWalk.i64_in _ (by omega)]
          obtain ⟨r, hr⟩ : ∃ r, r = s % 256 := ⟨_, rfl⟩
          obtain ⟨e, he⟩ : ∃ e, e = s / 256 := ⟨_, rfl⟩
          have hrI : (s : Int) % 256 = (r : Int) := by omega
          have heI : (s : Int).tdiv 256 = (e : Int) := by rw [Int.tdiv_eq_ediv_of_nonneg (by omega)]; omega
          have hr2 : r < 256 := by omega
          have he2 : e ≤ 255 := by omega
          have hs2 : s ≤ 65535 := hsm.1
          rw [← hr, ← he] at HST
          have hkb : k ≤ 1000001 := by omega
          have hib : i ≤ 1000000 := by omega
          have hab2 : ab ≤ 65025 := hsm.2.2
          have hp0 : (0 : Int) ≤ (p : Int) := by omega
          have hptn : ((p : Int)).toNat = p := Int.toNat_natCast p
          have H2 := Lib.hid K2
          have HS := Lib.hid hs
          have HAB := Lib.hid hab
          have HSTOP := Lib.hid hstop
          have hcase : k < Y ∨ (¬ k < Y ∧ 0 < q) := by
            by_cases c : k < Y
            · exact Or.inl c
            · exact Or.inr ⟨c, Nat.pos_of_ne_zero (fun c2 => HSTOP.out ⟨Nat.le_of_not_lt c, c2⟩)⟩
          have HPL := Lib.hid hpL
          have HKY := Lib.hid hkY
          have HLT := Lib.hid hlt
          clear K2 hst hp hs hab hstop hfx e2 e3 hr he hsm
          rcases hcase with h | ⟨h, h'⟩
          all_goals
            go_wp2_with fail
            go_quiet ((go_at_call 125; exact Calls.quiet_of_same ((H2.out _).mono fun _ _ h => ⟨h.1, h.2.symm⟩)))
            rename_i nq
            have hbq := below_drewN hbw nq
            have hblkq := Lib.hid (hblk'.out.drewN nq)
            have hfq : (wr.drewN nq).frozen? ⟨g, p, none⟩ = false := hfz
            have hczq : (wr.drewN nq).cell? ⟨g, p, none⟩ = some (.int .i64 (z : Nat)) := hcz
            generalize wr.drewN nq = wq at *
            have HB1 := hblkq.out.set_ p (.int .i64 ((r : Nat) : Int))
            rw [dcell3_set _ _ _ _ hr2] at HB1
            have HB2 := Lib.hid HB1
            have hb1 := hbq.setCell (p := ⟨g, p, none⟩) (Nat.le_refl _) (.int .i64 ((r : Nat) : Int))
            clear HB1
            go_wp2_with fail
            go_roundw
            case rel => exact ⟨k + 1, e, put 256 Z' p r, by have := HKY.out; omega, by go_num, rfl, he2, HST, HB2, hb1⟩
            case measure =>
              have := HKY.out
              clear hw1 hw3 hrI heI hsI habI hpI hptn hLI
              simp [intOf]; omega
    · obtain rfl : i = X := by omega
      have hE := hZ.out
      rw [HX.out, tms_all] at hE
      subst hE
      have HND : Hid (nd 256 (x * y) ≤ L) := Lib.hid (by
        have := HL.out; have := HX.out; have := HY.out
        refine Nat.le_trans (nd_mul3 x y) (by omega))
      have HO : Own wr g 3 .i64 (.slice (some ⟨g, 0, none⟩) L L) (dl 256 (x * y) L) := Own.of_fcells3 hblk.out (Nat.le_refl _) (by omega)
      have KC := Lib.hid (rCut3_c (x * y) L _ _ _ wr HND.out (by omega) HO)
      have HO5 := Lib.hid HO
      have hbc : Below w.heap.size w wr := by have h := HG.out; rw [h] at hb; exact hb
      clear HO hb
      go_wp2_with fail
      refine KC.out.mono ?_
      rintro e w6 ⟨rfl, rfl⟩
      go_wp2_with fail
      go_ret
      exact ⟨_, _, rfl, (HO5.out.cut HND.out).base (by have := HG.out; omega), hbc⟩
end Go.Proofs.YtjkonfopajihdaaDoor
set_option linter.unusedSimpArgs false
set_option linter.unusedVariables false
namespace Go.Proofs.YtjkonfopajihdaaDoor
open Go Go.RowKit Nt

def madeF3 (n Z i j : Nat) : Nat := if n - i ≤ j then dgt 256 Z (n - 1 - j) else 0
theorem madeF3_step {n Z i x j : Nat} (h : n = i + 1 + x) (hj : j < n) : (if j = x then dgt 256 Z i else madeF3 n Z i j) = madeF3 n Z (i + 1) j := by
  unfold madeF3
  by_cases h1 : j = x
  · rw [if_pos h1, if_pos (by omega), show n - 1 - j = i by omega]
  · rw [if_neg h1]
    by_cases h2 : n - i ≤ j
    · rw [if_pos h2, if_pos (by omega)]
    · rw [if_neg h2, if_neg (by omega)]
/-- What is made of a number, and whether it may be. -/
def MkPost (g : Bool) (n : Nat) (x : Int) (w : World) (e : Ending) (w' : World) : Prop := e = .returned (.tuple #[(mkD g n x).v, .int .i64 (mkE n x)]) ∧ Below w.heap.size w w'
theorem MkPost.no {g : Bool} {n : Nat} {x : Int} (h : ¬ mkOk3 n x) {w : World} {e : Ending} {w' : World} (he : e = .returned (.tuple #[.agg #[.bool false, .string ⟨#[]⟩, .int .i64 0], .int .i64 4])) (hb : Below w.heap.size w w') : MkPost g n x w e w' := by
  unfold MkPost
  rw [mkD_no h, mkE_no h, Dy.zero_v]
  exact ⟨he, hb⟩
theorem MkPost.zero {g : Bool} {x : Int} {w : World} {e : Ending} {w' : World} (he : e = .returned (.tuple #[.agg #[.bool false, .string ⟨#[]⟩, .int .i64 0], .int .i64 0])) (hb : Below w.heap.size w w') : MkPost g 0 x w e w' := by
  unfold MkPost
  rw [mkD_zero, mkE_zero, Dy.zero_v]
  exact ⟨he, hb⟩
theorem MkPost.ok {g : Bool} {n : Nat} {x : Int} (h0 : n ≠ 0) (h : mkOk3 n x) {w : World} {e : Ending} {w' : World} (he : e = .returned (.tuple #[.agg #[.bool g, .string (natS (odN n)), .int .i64 (x + lowN n)], .int .i64 0])) (hb : Below w.heap.size w w') : MkPost g n x w e w' := by
  unfold MkPost
  rw [mkD_ok h0 h, mkE_ok h]
  exact ⟨he, hb⟩
theorem box1 {w w1 : World} {b : Obj} (hb : Below (w.alloc b).heap.size (w.alloc b) w1) : w.heap.size < w1.heap.size := by have := hb.size; simp at this; omega
theorem lowN_bits {n m : Nat} (hn : nd 256 n ≤ m) : lowN n ≤ 8 * m := by
  by_cases h0 : n = 0
  · rw [h0, lowN_zero]; omega
  · have h1 := low_lt h0 (lowN_is n)
    have h2 := (bits_le n m).2 hn
    omega
set_option maxRecDepth 100000 in
theorem rFit3_zero (g : Bool) (x : Int) (A : Option Addr) (c : Nat) (w : World) :
    Calls Tryd.prog 66 #[.bool g, .slice A 0 c, .int .i64 x] w (MkPost g 0 x w) := by
  go_enter Tryd.func66, Tryd.ntmps66
  go_wp2
  refine bodyPost_ret (v := .tuple #[.agg #[.bool false, .string ⟨#[]⟩, .int .i64 0], .int .i64 0]) (by simp [results, Tryd.results66, go_sem]) rfl (MkPost.zero rfl ?_)
  repeat (refine Below.setCell ?_ (by simp) _)
  exact (Below.refl _ _).alloc (Nat.le_refl _) _
/-- The part of fit that all its ways share. -/
theorem fit_calls (n l o B : Nat) (A : Option Addr) (c : Nat) (w : World) (b : Obj) (h0 : n ≠ 0) (hl : l = lowN n) (ho : o = odN n) (hn : nd 256 n ≤ 100000) (h : Own w B 3 .i64 (.slice A (nd 256 n) c) (dl 256 n (nd 256 n))) :
    Hid (Calls Tryd.prog 103 #[.slice A (nd 256 n) c] (w.alloc b) fun e w' => e = .returned (.int .i64 (l : Nat)) ∧ w.alloc b = w') ∧
    Hid (Calls Tryd.prog 91 #[.slice A (nd 256 n) c, .int .i64 (l : Nat)] (w.alloc b) (BigP o (w.alloc b))) ∧ l ≤ 800000 := by
  have h1 : Own (w.alloc b) B 3 .i64 (.slice A (nd 256 n) c) (dl 256 n (nd 256 n)) := World.ownsRow.alloc h _
  have hlb := lowN_bits hn
  refine ⟨Lib.hid ?_, Lib.hid ?_, by omega⟩
  · rw [hl]; exact rLow3_c n (lowN n) (nd 256 n) B A c _ h0 (lowN_is n) (Nat.le_refl _) (by omega) h1
  · have := rHalved3_c n (l / 8) (l % 8) B A c _ (by omega) (by omega) (by omega) h1
    rw [show 8 * (l / 8) + l % 8 = l by omega] at this
    rw [ho]
    unfold odN
    rw [← hl]; exact this
set_option maxRecDepth 100000 in
set_option maxHeartbeats 1000000 in
theorem rFit3_no (g : Bool) (n : Nat) (x : Int) (B : Nat) (A : Option Addr) (c : Nat) (w : World) (h0 : n ≠ 0) (hno : ¬ mkOk3 n x) (hn : nd 256 n ≤ 100000) (hx : -9223372036854775808 ≤ x ∧ x ≤ 9223372036854775807) (h : Own w B 3 .i64 (.slice A (nd 256 n) c) (dl 256 n (nd 256 n))) :
    Calls Tryd.prog 66 #[.bool g, .slice A (nd 256 n) c, .int .i64 x] w (MkPost g n x w) := by
  obtain ⟨l, hl⟩ : ∃ l, l = lowN n := ⟨_, rfl⟩
  obtain ⟨o, ho⟩ : ∃ o, o = odN n := ⟨_, rfl⟩
  obtain ⟨L, hL⟩ : ∃ L, L = nd 256 n := ⟨_, rfl⟩
  have hc := fun b => fit_calls n l o B A c w b h0 hl ho hn h
  have hz : ((nd 256 n : Nat) : Int) ≠ 0 := by
    have : nd 256 n ≠ 0 := fun c => h0 ((nd_eq_zero (by omega)).1 c)
    omega
  have hz2 : (((nd 256 n : Nat) : Int) == 0) = false := by rw [beq_eq_false_iff_ne]; exact hz
  have hlb := (hc (.cells #[] 0)).2.2
  have hcase : 1048576 < x ∨ (¬ 1048576 < x ∧ x < -4194304) ∨ (¬ 1048576 < x ∧ ¬ x < -4194304 ∧ 1048576 < x + (l : Int)) ∨ (¬ 1048576 < x ∧ ¬ x < -4194304 ∧ ¬ 1048576 < x + (l : Int) ∧ x + (l : Int) < -1048576) ∨ (¬ 1048576 < x ∧ ¬ x < -4194304 ∧ ¬ 1048576 < x + (l : Int) ∧ ¬ x + (l : Int) < -1048576 ∧ 16384 < nd 256 o) := by
    unfold mkOk3 fits at hno
    rw [← hl, ← ho] at hno
    by_cases c1 : 1048576 < x
    · exact Or.inl c1
    by_cases c2 : x < -4194304
    · exact Or.inr (Or.inl ⟨c1, c2⟩)
    by_cases c3 : 1048576 < x + (l : Int)
    · exact Or.inr (Or.inr (Or.inl ⟨c1, c2, c3⟩))
    by_cases c4 : x + (l : Int) < -1048576
    · exact Or.inr (Or.inr (Or.inr (Or.inl ⟨c1, c2, c3, c4⟩)))
    by_cases c5 : 16384 < nd 256 o
    · exact Or.inr (Or.inr (Or.inr (Or.inr ⟨c1, c2, c3, c4, c5⟩)))
    · exact absurd (Or.inr ⟨by omega, by omega, by omega⟩) hno
  rw [← hL] at hz hz2 hc ⊢
  have HNO := Lib.hid hno
  have HC := Lib.hid (fun b => (hc b).1)
  have HH := Lib.hid (fun b => (hc b).2.1)
  clear hno hc hL hl ho h h0 hn
  rcases hcase with c1 | ⟨c1, c2⟩ | ⟨c1, c2, c3⟩ | ⟨c1, c2, c3, c4⟩ | ⟨c1, c2, c3, c4, c5⟩
  all_goals
    go_enter Tryd.func66, Tryd.ntmps66
    go_wp2_with (first
      | (go_at_call 103; refine ((HC.out _).out).mono ?_; rintro e w1 ⟨rfl, rfl⟩)
      | (go_at_call 91; refine ((HH.out _).out).mono ?_; rintro e w2 ⟨A5, c5, rfl, hown, hb⟩; obtain ⟨hcl, hfz⟩ := bcell hb; have hsz := box1 hb; clear hown))
    refine bodyPost_ret (v := .tuple #[.agg #[.bool false, .string ⟨#[]⟩, .int .i64 0], .int .i64 4]) (by simp [results, Tryd.results66, go_sem, hcl, hsz]) rfl (MkPost.no HNO.out rfl ?_)
    repeat (refine Below.setCell ?_ (by simp) _)
    exact box_below hb
end Go.Proofs.YtjkonfopajihdaaDoor
set_option linter.unusedSimpArgs false
set_option linter.unusedVariables false
namespace Go.Proofs.YtjkonfopajihdaaDoor
open Go Go.RowKit Nt

set_option maxRecDepth 100000 in
set_option maxHeartbeats 1000000 in
theorem rFit3_ok (g : Bool) (n : Nat) (x : Int) (B : Nat) (A : Option Addr) (c : Nat) (w : World) (h0 : n ≠ 0) (hok : mkOk3 n x) (hn : nd 256 n ≤ 100000) (h : Own w B 3 .i64 (.slice A (nd 256 n) c) (dl 256 n (nd 256 n))) :
    Calls Tryd.prog 66 #[.bool g, .slice A (nd 256 n) c, .int .i64 x] w (MkPost g n x w) := by
  obtain ⟨i0, hi0, hz0, hz1, hz2⟩ := info_parts (P := Tryd.prog) (e := 5) (z := .int .u8 0) (size := 1) (bytes := 1) (by kernel_rfl)
  obtain ⟨l, hl⟩ : ∃ l, l = lowN n := ⟨_, rfl⟩
  obtain ⟨o, ho⟩ : ∃ o, o = odN n := ⟨_, rfl⟩
  obtain ⟨L, hL⟩ : ∃ L, L = nd 256 n := ⟨_, rfl⟩
  have hc := fun b => fit_calls n l o B A c w b h0 hl ho hn h
  have hzz : ((nd 256 n : Nat) : Int) ≠ 0 := by
    have : nd 256 n ≠ 0 := fun c => h0 ((nd_eq_zero (by omega)).1 c)
    omega
  have hzz2 : (((nd 256 n : Nat) : Int) == 0) = false := by rw [beq_eq_false_iff_ne]; exact hzz
  have hlb := (hc (.cells #[] 0)).2.2
  have hcase : ¬ 1048576 < x ∧ ¬ x < -4194304 ∧ ¬ 1048576 < x + (l : Int) ∧ ¬ x + (l : Int) < -1048576 ∧ nd 256 o ≤ 16384 := by
    have hk := hok
    unfold mkOk3 fits at hk
    rw [← hl, ← ho] at hk
    rcases hk with hk | ⟨hk1, hk2, hk3⟩
    · exact absurd hk h0
    · exact ⟨by omega, by omega, by omega, by omega, hk1⟩
  have HOK := Lib.hid (fun (w' : World) (e : Ending) => @MkPost.ok g n x h0 hok w e w')
  rw [← hl, ← ho] at HOK
  rw [← hL] at hzz hzz2 hc ⊢
  have HC := Lib.hid (fun b => (hc b).1)
  have HH := Lib.hid (fun b => (hc b).2.1)
  obtain ⟨K, hK⟩ : ∃ K, K = nd 256 o := ⟨_, rfl⟩
  obtain ⟨c1, c2, c3, c4, c5⟩ := hcase
  rw [← hK] at c5
  have c6 : ¬ (16384 : Int) < (K : Int) := by omega
  have HK := Lib.hid hK
  have hHH : Hid (∀ b, Calls Tryd.prog 91 #[.slice A L c, .int .i64 (l : Nat)] (w.alloc b) fun e w' => ∃ A5 c5, e = .returned (.slice A5 K c5) ∧ DRow w' A5 o K ∧ Below (w.alloc b).heap.size (w.alloc b) w') := Lib.hid fun b => ((HH.out b).out).mono fun e w' ⟨A5, c5, e1, e2, e3⟩ => ⟨A5, c5, by rw [HK.out]; exact e1, by rw [HK.out]; exact e2.drow, e3⟩
  have hcf : Hid (∀ wr g, Blk wr g 5 (fcells .u8 (madeF3 K o K) K) → (convert 114 22 (.slice (some ⟨g, 0, none⟩) K K)).run Tryd.prog wr = .ok (.string (natS o)) wr) := Lib.hid fun wr g hblk => by
    have hN := HK.out
    have hl : ((dl 256 o (nd 256 o)).reverse.map UInt8.ofNat).length = K := by simp [dl_length, hN]
    have h := run_convert_bytes_back (P := Tryd.prog) wr 114 22 5 ⟨g, 0, none⟩ K ((dl 256 o (nd 256 o)).reverse.map UInt8.ofNat) Tryd.underlying114 Tryd.underlying5 Tryd.underlying22 (fun j hj => by
      have hj2 : j < K := by rw [← hl]; exact hj
      rw [add_plain0, hblk.cell, fcells_get _ _ _ _ hj2]
      have e := natS_get o j (by rw [natS_size, ← hN]; exact hj2)
      rw [ba_get] at e
      simp only [natS_def] at e
      rw [List.getElem_toArray] at e
      rw [e]
      unfold madeF3
      rw [if_pos (by omega), hN])
    rw [hl, ← natS_def] at h
    exact h
  clear hc hL hl ho h h0 hn hok HH hK
  go_enter Tryd.func66, Tryd.ntmps66
  go_wp2_with fail
  refine ((HC.out _).out).mono ?_
  rintro e w1 ⟨rfl, rfl⟩
  go_wp2_with fail
  refine (hHH.out _).mono ?_
  rintro e w1 ⟨A5, c5, rfl, hrow, hb0⟩
  have HROW := Lib.hid hrow
  have hb00 := box_below hb0
  have hszb := box1 hb0
  obtain ⟨hcl0, hfz0⟩ := bcell hb0
  have HB0 := Lib.hid hb0
  clear hrow hb0
  go_wp2_with (at_make; go_loud (refine wpList_make_zero _ rfl _ _ _ rfl 5 i0 _ Tryd.underlying114 hi0 hz0 hz1 .i64 .i64 _ _ K rfl rfl rfl rfl (by rw [hz2]; omega) (by unfold maxLen; omega) ?_))
  rw [fcells_made]
  have HBK := Lib.hid (Blk.new w1 5 (fcells .u8 (fun _ => 0) K))
  have hbl : Below w1.heap.size w1 (w1.alloc (.cells (fcells .u8 (fun _ => 0) K) 5)) := (Below.refl _ _).alloc (Nat.le_refl _) _
  generalize w1.alloc (.cells (fcells .u8 (fun _ => 0) K) 5) = w2 at *
  obtain ⟨gg, hg⟩ : ∃ gg, gg = w1.heap.size := ⟨_, rfl⟩
  rw [← hg] at HBK hbl ⊢
  have HG := Lib.hid hg
  clear hg hcl0 hfz0
  go_loopw [10] (fun i wr => ∃ q : Nat, q ≤ K ∧ i = .int .i64 q ∧ Hid (Blk wr gg 5 (fcells .u8 (madeF3 K o q) K)) ∧ Below gg w1 wr) (fun i _ => K - (intOf i).toNat)
  case atStart => exact ⟨0, Nat.zero_le _, rfl, by rw [fcells_congr (f' := fun _ => 0) (fun j hj => by unfold madeF3; rw [if_neg (by omega)])]; exact HBK, hbl⟩
  case round =>
    obtain ⟨q, hq, rfl, hblk, hb⟩ := hrel
    by_cases hlt : q < K
    · obtain ⟨y, hy⟩ : ∃ y, K = q + 1 + y := ⟨K - q - 1, by omega⟩
      obtain ⟨gb, hA, hgb, hcb⟩ := HROW.out q (by omega)
      have hcb2 := (hb.cell (p := ⟨gb, q, none⟩) (by have := HG.out; show gb < gg; omega)).trans hcb
      cases hA
      have hfz := hblk.out.frozen y
      have hck := hblk.out.cell y
      rw [fcells_get _ _ _ _ (by omega)] at hck
      have hxI : (K : Int) - 1 - (q : Int) = (y : Int) := by omega
      have hd := dgt_lt (b := 256) (by omega) o q
      have hwr : IntKind.u8.wrap ((dgt 256 o q : Nat) : Int) = ((dgt 256 o q : Nat) : Int) := by rw [wrap_u8, Nat.mod_eq_of_lt hd]
      have HX := Lib.hid hy
      clear hy hcb
      go_wp2
      have HB1 := Lib.hid (hblk.out.set_ y (.int .u8 ((dgt 256 o q : Nat) : Int)))
      rw [fcells_set, fcells_congr (f' := madeF3 K o (q + 1)) (fun j hj => madeF3_step HX.out hj)] at HB1
      have hb1 := hb.setCell (p := ⟨gg, y, none⟩) (Nat.le_refl _) (.int .u8 ((dgt 256 o q : Nat) : Int))
      go_roundw
      case rel => exact ⟨q + 1, by omega, by go_num, HB1, hb1⟩
      case measure => simp [intOf]; omega
    · obtain rfl : q = K := by omega
      have hcv := hcf.out wr gg hblk.out
      have hbt := HB0.out.trans (hb.mono (by have := HG.out; have := HB0.out.size; omega))
      obtain ⟨hcl, hfz⟩ := bcell hbt
      have hsz := box1 hbt
      have hw3 : wrap64 (x + (l : Int)) = x + (l : Int) := IntWalk.wrap64_in _ (by omega)
      have hbe := box_below hbt
      clear hb hblk
      go_wp2
      refine bodyPost_ret (v := .tuple #[.agg #[.bool g, .string (natS o), .int .i64 (x + l)], .int .i64 0]) (by simp [results, Tryd.results66, go_sem, hcl, hsz]) rfl (HOK.out _ _ rfl ?_)
      repeat (refine Below.setCell ?_ (by simp) _)
      exact hbe
end Go.Proofs.YtjkonfopajihdaaDoor
set_option linter.unusedSimpArgs false
set_option linter.unusedVariables false
namespace Go.Proofs.YtjkonfopajihdaaDoor
open Go Go.RowKit Nt

set_option maxRecDepth 100000 in
theorem rMake3_bad (g : Bool) (s : ByteArray) (x : Int) (w : World) (hs : s.size ≤ 9223372036854775807) (h : ¬ May s) :
    Calls Tryd.prog 26 #[.bool g, .string s, .int .i64 x] w fun e w' => e = .returned (.tuple #[.agg #[.bool false, .string ⟨#[]⟩, .int .i64 0], .int .i64 2]) ∧ Below w.heap.size w w' := by
  have hcase : 16384 < s.size ∨ (¬ 16384 < s.size ∧ ∃ hp : 0 < s.size, (s[0]'hp).toNat = 0) := by
    by_cases c : 16384 < s.size
    · exact Or.inl c
    · refine Or.inr ⟨c, ?_⟩
      by_cases hp : 0 < s.size
      · refine ⟨hp, ?_⟩
        by_cases h0 : (s[0]'hp).toNat = 0
        · exact h0
        · exact absurd ⟨by omega, fun _ => h0⟩ h
      · exact absurd ⟨by omega, fun c => absurd c hp⟩ h
  clear h
  rcases hcase with c | ⟨c, hp, h0⟩
  · go_enter Tryd.func26, Tryd.ntmps26
    go_wp2
    refine bodyPost_ret (v := .tuple #[.agg #[.bool false, .string ⟨#[]⟩, .int .i64 0], .int .i64 2]) (by simp [results, Tryd.results26, go_sem]) rfl ⟨rfl, ?_⟩
    repeat (refine Below.setCell ?_ (by simp) _)
    exact (Below.refl _ _).alloc (Nat.le_refl _) _
  · have hz := u8_eqz (s[0]'hp) h0
    have c' : ¬ (16384 : Int) < (s.size : Int) := by omega
    have H0 := Lib.hid h0
    clear h0
    go_enter Tryd.func26, Tryd.ntmps26
    go_wp2
    refine bodyPost_ret (v := .tuple #[.agg #[.bool false, .string ⟨#[]⟩, .int .i64 0], .int .i64 2]) (by simp [results, Tryd.results26, go_sem]) rfl ⟨rfl, ?_⟩
    repeat (refine Below.setCell ?_ (by simp) _)
    exact (Below.refl _ _).alloc (Nat.le_refl _) _
theorem rFit3_c (g : Bool) (n : Nat) (x : Int) (B : Nat) (A : Option Addr) (c : Nat) (w : World) (hn : nd 256 n ≤ 100000) (hx : -9223372036854775808 ≤ x ∧ x ≤ 9223372036854775807) (h : Own w B 3 .i64 (.slice A (nd 256 n) c) (dl 256 n (nd 256 n))) :
    Calls Tryd.prog 66 #[.bool g, .slice A (nd 256 n) c, .int .i64 x] w (MkPost g n x w) := by
  by_cases h0 : n = 0
  · subst h0
    rw [nd_zero]
    exact rFit3_zero g x A c w
  · by_cases hk : mkOk3 n x
    · exact rFit3_ok g n x B A c w h0 hk hn h
    · exact rFit3_no g n x B A c w h0 hk hn hx h
set_option maxRecDepth 100000 in
set_option maxHeartbeats 400000 in
theorem rMake3_c (g : Bool) (n : Nat) (x : Int) (w : World) (hf : fits n) (hx : -9223372036854775808 ≤ x ∧ x ≤ 9223372036854775807) :
    Calls Tryd.prog 26 #[.bool g, .string (natS n), .int .i64 x] w (MkPost g n x w) := by
  have hsz := natS_size n
  have hL : nd 256 n ≤ 16384 := hf
  have KO := Lib.hid (fun w => rOf3_c n w (by omega))
  have KF : Hid (∀ (B : Nat) (A : Option Addr) (c : Nat) (w : World), Own w B 3 .i64 (.slice A (nd 256 n) c) (dl 256 n (nd 256 n)) → Calls Tryd.prog 66 #[.bool g, .slice A (nd 256 n) c, .int .i64 x] w (MkPost g n x w)) := Lib.hid fun B A c w h => rFit3_c g n x B A c w (by omega) hx h
  have hcase : nd 256 n = 0 ∨ (0 < nd 256 n ∧ ∃ hp : 0 < (natS n).size, (((natS n)[0]'hp).toNat : Int) ≠ 0) := by
    rcases Nat.eq_zero_or_pos (nd 256 n) with c | c
    · exact Or.inl c
    · have hp : 0 < (natS n).size := by omega
      have := nat_first hf hp
      exact Or.inr ⟨c, hp, by omega⟩
  obtain ⟨L, hLL⟩ : ∃ L, L = nd 256 n := ⟨_, rfl⟩
  rw [← hLL] at hL hcase KF hsz KO
  have HL := Lib.hid hLL
  clear hLL hf hx
  rcases hcase with c | ⟨c, hp, h0⟩
  case' inl => subst c
  case' inr =>
    have hz : ((((natS n)[0]'hp).toNat : Int) == 0) = false := by rw [beq_eq_false_iff_ne]; exact h0
  all_goals
    go_enter Tryd.func26, Tryd.ntmps26
    go_wp2_with fail
    refine (KO.out _).mono ?_
    rintro e w1 ⟨v, rfl, hown, hb⟩
    obtain ⟨A1, c1, rfl, hc1⟩ := hown.len
    rw [dl_length] at hown hc1 ⊢
    obtain ⟨hcl, hfz⟩ := bcell hb
    have hsz1 := box1 hb
    have HOW := Lib.hid hown
    clear hown hc1
    go_wp2_with fail
    refine (KF.out _ _ _ _ HOW.out).mono ?_
    rintro e w2 ⟨rfl, hb2⟩
    have hb12 := hb.trans (hb2.mono hb.size)
    obtain ⟨hcl2, hfz2⟩ := bcell hb12
    have hsz2 := box1 hb12
    have hbe := box_below hb12
    clear hb hb2 hcl hfz hsz1
    unfold Dy.v
    go_wp2_with fail
    refine bodyPost_ret (v := .tuple #[(mkD g n x).v, .int .i64 (mkE n x)]) (by simp [results, Tryd.results26, go_sem, hcl2, hsz2, Dy.v]) rfl ⟨rfl, ?_⟩
    repeat (refine Below.setCell ?_ (by simp) _)
    exact hbe
end Go.Proofs.YtjkonfopajihdaaDoor
