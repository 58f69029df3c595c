/- Contracts of the document: times, Mul, two. -/
import Derived.Test.YtjcicbnjoffbhaaN45
set_option linter.unusedSimpArgs false
set_option linter.unusedVariables false
namespace Go.Proofs.Ytjcicbnjoffbhaa
open Go Go.RowKit Nt

/-- The digits of a number, as cells. -/
def dcells (n L : Nat) : Array Value := fcells .i64 (dgt 256 n) L
theorem dcells_get (n L j : Nat) (h : j < L) : (dcells n L)[j]? = some (.int .i64 (dgt 256 n j : Nat)) := fcells_get _ _ _ _ h
theorem dcells_set (n L i v : Nat) (hv : v < 256) : (dcells n L).setIfInBounds i (.int .i64 (v : Nat)) = dcells (put 256 n i v) L := by
  unfold dcells
  rw [fcells_set]
  exact fcells_congr fun j _ => (dgt_put (by omega) n i v j hv).symm
theorem dcells_made (L : Nat) : madeCells #[.int .i64 0] L = dcells 0 L := by
  unfold dcells
  rw [fcells_made]
  exact fcells_congr fun j _ => by rw [dgt_def, Nat.zero_div]
theorem fcells_list (k : IntKind) (f : Nat → Nat) (L : Nat) : (fcells k f L).toList = (((List.range L).map f).map (fun (x : Nat) => Value.int k (x : Int))) := by
  unfold fcells; rw [List.map_map]; rfl
theorem Own.of_fcells {w : World} {B g : Nat} {T : TypeId} {k : IntKind} {f : Nat → Nat} {L : Nat} (h : Blk w g T (fcells k f L)) (hB : B ≤ g) (hL : L ≤ 1000000000) :
    Own w B T k (.slice (some ⟨g, 0, none⟩) L L) ((List.range L).map f) := by
  have hlen : ((List.range L).map f).length = L := by simp
  unfold Own
  rw [hlen]
  refine ⟨by simp, Or.inr ⟨g, L, fcells k f L, rfl, hB, h, Nat.le_refl _, by unfold maxLen; omega, by rw [fcells_size, Nat.mul_one], ?_⟩⟩
  rw [fcells_list, Nat.mul_one]
  exact List.take_of_length_le (by simp)
set_option maxRecDepth 100000 in
set_option maxHeartbeats 1000000 in
theorem rTimes_c (x y : Nat) (w : World) (hx : nd 256 x ≤ 100000000) (hy : nd 256 y ≤ 100000000) :
    Calls Try.prog 77 #[.string (natS x), .string (natS y)] w fun e w' => e = .returned (.string (natS (x * y))) ∧ Below w.heap.size w w' := by
  obtain ⟨i0, hi0, hz0, hj1, hj2⟩ := info_parts (P := Try.prog) (e := 3) (z := .int .i64 0) (size := 1) (bytes := 8) (by kernel_rfl)
  have KX := Lib.hid (fun w => rDigits_c x w (by omega))
  have KY := Lib.hid (fun w => rDigits_c y w (by omega))
  obtain ⟨X, hX⟩ : ∃ X, X = nd 256 x := ⟨_, rfl⟩
  obtain ⟨Y, hY⟩ : ∃ Y, Y = nd 256 y := ⟨_, rfl⟩
  obtain ⟨L, hL⟩ : ∃ L, L = X + Y + 1 := ⟨_, rfl⟩
  rw [← hX] at KX hx
  rw [← hY] at KY hy
  have HX := Lib.hid hX
  have HY := Lib.hid hY
  have HL := Lib.hid hL
  have hLI : ((X : Int) + (Y : Int) + 1) = (L : Int) := by omega
  have hL2 : L ≤ 300000000 := by omega
  clear hX hY hL
  go_enter Try.func77, Try.ntmps77
  go_wp2_with fail
  refine (KX.out _).mono ?_
  rintro e w1 ⟨v1, rfl, ho1, hb1⟩
  obtain ⟨A1, c1, rfl, hc1⟩ := ho1.len
  rw [dl_length] at ho1 hc1 ⊢
  have HO1 := Lib.hid ho1
  clear ho1 hc1
  go_wp2_with fail
  refine (KY.out _).mono ?_
  rintro e w2 ⟨v2, rfl, ho2, hb2⟩
  obtain ⟨A2, c2, rfl, hc2⟩ := ho2.len
  rw [dl_length] at ho2 hc2 ⊢
  have HO2 := Lib.hid ho2
  have HO3 := Lib.hid (HO1.out.whole hb2)
  have hb12 := below_chain hb1 hb2
  clear ho2 hc2 HO1 hb1
  go_wp2_with (at_make; go_loud (refine wpList_make_zero _ rfl _ _ _ rfl 3 i0 _ Try.underlying80 hi0 hz0 hj1 .i64 .i64 _ _ L rfl rfl (by omega) (by omega) (by rw [hj2]; omega) (by unfold maxLen; omega) ?_))
  rw [dcells_made]
  have HB0 := Lib.hid (Blk.new w2 3 (dcells 0 L))
  have hbl : Below w2.heap.size w2 (w2.alloc (.cells (dcells 0 L) 3)) := (Below.refl _ _).alloc (Nat.le_refl _) _
  generalize w2.alloc (.cells (dcells 0 L) 3) = w3 at *
  obtain ⟨g, hg⟩ : ∃ g, g = w2.heap.size := ⟨_, rfl⟩
  rw [← hg] at HB0 hbl ⊢
  have HG := Lib.hid hg
  clear hg
  go_loopw [8] (fun i wr => ∃ (k Z : Nat), k ≤ X ∧ i = .int .i64 k ∧ Hid (Z = x % 256 ^ k * y) ∧ Hid (Blk wr g 3 (dcells Z L)) ∧ Below g w2 wr) (fun i _ => X - (intOf i).toNat)
  case atStart => exact ⟨0, 0, by omega, rfl, Lib.hid (by rw [Nat.pow_zero, Nat.mod_one, Nat.zero_mul]), HB0, hbl⟩
  case round =>
    obtain ⟨i, Z, hi, rfl, hZ, hblk, hb⟩ := hrel
    by_cases hlt : i < X
    · have ha := dgt_lt (b := 256) (by omega) x i
      have HT := Lib.hid (tms_first x y i)
      rw [← hZ.out] at HT
      go_wp2_with fail
      go_loopw [9, 10] (fun m kk wr' => ∃ (k q Z' : Nat), k ≤ Y + 1 ∧ kk = .int .i64 k ∧ m = .int .i64 q ∧ q ≤ 255 ∧ Hid (tms x y i k Z' q) ∧ Hid (Blk wr' g 3 (dcells Z' L)) ∧ Below g w2 wr') (fun _ kk _ => Y + 1 - (intOf kk).toNat)
      case atStart => exact ⟨0, 0, Z, by omega, rfl, rfl, by omega, HT, hblk, hb⟩
      case round =>
        obtain ⟨k, q, Z', hk, rfl, rfl, hq, htm, hblk', hbw⟩ := hrel
        by_cases hstop : Y ≤ k ∧ q = 0
        · obtain ⟨h1, rfl⟩ := hstop
          have h1' : ¬ k < Y := by omega
          have HN := Lib.hid (tms_last htm.out (by have := HY.out; omega))
          go_wp2_with fail
          go_roundw
          case rel => exact ⟨i + 1, Z', by omega, by go_num, HN, hblk', hbw⟩
          case measure => simp [intOf]; omega
        · have hkY : k ≤ Y := by
            rcases Nat.lt_or_ge Y k with c | c
            · have := tms_more htm.out (by have := HY.out; omega) (fun c2 => hstop ⟨by omega, c2⟩)
              have := HY.out; omega
            · exact c
          obtain ⟨p, hp⟩ : ∃ p, p = i + k := ⟨_, rfl⟩
          have hpI : (i : Int) + (k : Int) = (p : Int) := by omega
          have hpL : p < L := by have := HL.out; omega
          have hzd := dgt_lt (b := 256) (by omega) Z' p
          have hyd := dgt_lt (b := 256) (by omega) y k
          have hcz := hblk'.out.cell p
          rw [dcells_get _ _ _ hpL] at hcz
          have hfz := hblk'.out.frozen p
          obtain ⟨ga, cap, e1, _, hga, hcx, hfx⟩ := (HO3.out.below hbw (fun g' e => by have := (HO3.out.lt g' e).2; have := HG.out; omega)).cell (j := i) (by rw [dl_length]; exact hlt)
          injection e1 with e1 e2 e3
          subst e1
          rw [dl_get] at hcx
          have K2 := fun m => rAt_c y Y k _ A2 c2 (wr.drewN m) (by have := HY.out; omega) (by omega) (by omega) ((HO2.out.below hbw (fun g' e => by have := (HO2.out.lt g' e).2; have := HG.out; omega)).drewN m)
          obtain ⟨s, hs⟩ : ∃ s, s = q + dgt 256 Z' p + dgt 256 x i * dgt 256 y k := ⟨_, rfl⟩
          have hst := tms_step htm.out (s := s) (by rw [hs, hp])
          rw [← hp] at hst
          have hsm := tms_next hq hzd ha hyd
          rw [← hs] at hsm
          have HST := Lib.hid hst
          have HP := Lib.hid hp
          generalize dgt 256 Z' p = z at *
          generalize dgt 256 y k = b at *
          generalize dgt 256 x i = a at *
          obtain ⟨ab, hab⟩ : ∃ ab, ab = a * b := ⟨_, rfl⟩
          have habI : (a : Int) * (b : Int) = (ab : Int) := by rw [hab, Int.natCast_mul]
          rw [← hab] at hsm hs
          have hsI : (q : Int) + (z : Int) + (ab : Int) = (s : Int) := by omega
          have hw1 : IntKind.i64.wrap ((i : Int) + (k : Int)) = (p : Int) := by rw [IntWalk.i64_in _ (by omega)]; omega
          have hw3 : IntKind.i64.wrap ((a : Int) * (b : Int)) = (ab : Int) := by rw [habI, IntWalk.i64_in _ (by omega)]
          obtain ⟨r, hr⟩ : ∃ r, r = s % 256 := ⟨_, rfl⟩
          obtain ⟨e, he⟩ : ∃ e, e = s / 256 := ⟨_, rfl⟩
          have hrI : (s : Int) % 256 = (r : Int) := by omega
          have heI : (s : Int).tdiv 256 = (e : Int) := by rw [Int.tdiv_eq_ediv_of_nonneg (by omega)]; omega
          have hr2 : r < 256 := by omega
          have he2 : e ≤ 255 := by omega
          have hs2 : s ≤ 65535 := hsm.1
          rw [← hr, ← he] at HST
          have hkb : k ≤ 100000000 := by omega
          have hib : i ≤ 100000000 := by omega
          have hab2 : ab ≤ 65025 := hsm.2.2
          have hp0 : (0 : Int) ≤ (p : Int) := by omega
          have hptn : ((p : Int)).toNat = p := Int.toNat_natCast p
          have H2 := Lib.hid K2
          have HS := Lib.hid hs
          have HAB := Lib.hid hab
          have HSTOP := Lib.hid hstop
          have hcase : k < Y ∨ (¬ k < Y ∧ 0 < q) := by
            by_cases c : k < Y
            · exact Or.inl c
            · exact Or.inr ⟨c, Nat.pos_of_ne_zero (fun c2 => HSTOP.out ⟨Nat.le_of_not_lt c, c2⟩)⟩
          have HPL := Lib.hid hpL
          have HKY := Lib.hid hkY
          have HLT := Lib.hid hlt
          clear K2 hst hp hs hab hstop hfx e2 e3 hr he hsm
          rcases hcase with h | ⟨h, h'⟩
          all_goals
            go_wp2_with fail
            go_quiet ((go_at_call 74; exact Calls.quiet_of_same ((H2.out _).mono fun _ _ h => ⟨h.1, h.2.symm⟩)))
            rename_i nq
            have hbq := below_drewN hbw nq
            have hblkq := Lib.hid (hblk'.out.drewN nq)
            have hfq : (wr.drewN nq).frozen? ⟨g, p, none⟩ = false := hfz
            have hczq : (wr.drewN nq).cell? ⟨g, p, none⟩ = some (.int .i64 (z : Nat)) := hcz
            generalize wr.drewN nq = wq at *
            have HB1 := hblkq.out.set_ p (.int .i64 ((r : Nat) : Int))
            rw [dcells_set _ _ _ _ hr2] at HB1
            have HB2 := Lib.hid HB1
            have hb1 := hbq.setCell (p := ⟨g, p, none⟩) (Nat.le_refl _) (.int .i64 ((r : Nat) : Int))
            clear HB1
            go_wp2_with fail
            go_roundw
            case rel => exact ⟨k + 1, e, put 256 Z' p r, by have := HKY.out; omega, by go_num, rfl, he2, HST, HB2, hb1⟩
            case measure =>
              have := HKY.out
              clear hw1 hw3 hrI heI hsI habI hpI hptn hLI
              simp [intOf]; omega
    · obtain rfl : i = X := by omega
      have hE := hZ.out
      rw [HX.out, tms_all] at hE
      have hof : of 256 (dl 256 Z L) = x * y := by rw [hE, HL.out, HX.out, HY.out]; exact tms_fits x y
      have HOF := Lib.hid hof
      have HLL : Hid ((dl 256 Z L).length ≤ 1000000000) := Lib.hid (by rw [dl_length]; omega)
      have HO : Hid (Own wr g 3 .i64 (.slice (some ⟨g, 0, none⟩) L L) (dl 256 Z L)) := Lib.hid (Own.of_fcells hblk.out (Nat.le_refl _) (by omega))
      have hbc : Below w.heap.size w wr := below_chain hb12 (by have h := HG.out; rw [h] at hb; exact hb)
      clear hE hof hb
      go_wp2_with fail
      refine (rMade_c _ _ _ _ (dl_lt256 Z L) HLL.out HO.out).mono ?_
      rintro e w' ⟨rfl, hb'⟩
      go_wp2_with fail
      go_ret
      exact ⟨by rw [HOF.out]; rfl, below_chain hbc hb'⟩
set_option maxRecDepth 100000 in
theorem rMul_c (x y : Nat) (w : World) (hx : nd 256 x ≤ 100000000) (hy : nd 256 y ≤ 100000000) (hz : 16385 < nd 256 x + nd 256 y → x ≠ 0 ∧ y ≠ 0) :
    Calls Try.prog 42 #[.string (natS x), .string (natS y)] w (StrPost (resS (x * y)) (resE (x * y)) w) := by
  have hsx := natS_size x
  have hsy := natS_size y
  have hm : nd 256 (x * y) ≤ nd 256 x + nd 256 y := by
    refine nd_le (by omega) ?_
    have h := Nat.mul_lt_mul'' (lt_nd (b := 256) (n := x) (by omega)) (lt_nd (b := 256) (n := y) (by omega))
    rwa [← Nat.pow_add] at h
  by_cases h : 16385 < nd 256 x + nd 256 y
  · obtain ⟨h0, h1⟩ := hz h
    have hno : ¬ fits (x * y) := fun c => by
      have hx2 : nd 256 x ≠ 0 := fun d => h0 ((nd_eq_zero (by omega)).1 d)
      have hy2 : nd 256 y ≠ 0 := fun d => h1 ((nd_eq_zero (by omega)).1 d)
      have hx1 : 256 ^ (nd 256 x - 1) ≤ x := (pow_le_iff (by omega) _ _).2 (by omega)
      have hy1 : 256 ^ (nd 256 y - 1) ≤ y := (pow_le_iff (by omega) _ _).2 (by omega)
      have h2 := Nat.mul_le_mul hx1 hy1
      rw [← Nat.pow_add] at h2
      have h3 := (pow_le_iff (b := 256) (by omega) _ _).1 h2
      unfold fits at c
      omega
    have HE := Lib.hid (resE_no hno)
    have HS := Lib.hid (resS_no hno)
    have h2 : (16385 : Int) < (nd 256 x : Int) + (nd 256 y : Int) := by omega
    clear hm hno hz h0 h1
    go_enter Try.func42, Try.ntmps42
    go_wp2_with fail
    go_ret2
    exact ⟨by rw [HE.out, HS.out]; rfl, Below.refl _ _⟩
  · have KT := Lib.hid (fun w => rTimes_c x y w hx hy)
    have KE := Lib.hid (fun w => rEnded_c (x * y) w (by omega))
    have h2 : ¬ (16385 : Int) < (nd 256 x : Int) + (nd 256 y : Int) := by omega
    clear hm hz
    go_enter Try.func42, Try.ntmps42
    go_wp2_with fail
    refine (KT.out _).mono ?_
    rintro e w1 ⟨rfl, hb1⟩
    go_wp2_with fail
    refine (KE.out _).mono ?_
    rintro e w2 ⟨rfl, rfl⟩
    go_wp2_with fail
    go_ret2
    exact ⟨rfl, hb1⟩
end Go.Proofs.Ytjcicbnjoffbhaa
