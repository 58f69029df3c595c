/- Contracts of the document: plus, Add. -/
import Derived.Test.YtjcicbnjoffbhaaN44
set_option linter.unusedSimpArgs false
set_option linter.unusedVariables false
namespace Go.Proofs.Ytjcicbnjoffbhaa
open Go Go.RowKit Nt

theorem plus_num {x y k q d e : Nat} (hq : q = car 256 x y k) (hd : d = dgt 256 (x + y) k) (he : e = car 256 x y (k + 1)) :
    q ≤ 1 ∧ (q + dgt 256 x k + dgt 256 y k) % 256 = d ∧ (q + dgt 256 x k + dgt 256 y k) / 256 = e ∧ dgt 256 x k < 256 ∧ dgt 256 y k < 256 ∧ d < 256 := by
  have h1 := car_le (b := 256) (by omega) x y k
  have h2 := dgt_add (b := 256) (by omega) x y k
  have h3 := car_succ (b := 256) (by omega) x y k
  have h4 := dgt_lt (b := 256) (by omega) x k
  have h5 := dgt_lt (b := 256) (by omega) y k
  rw [← hq] at h1 h2 h3
  rw [← hd] at h2
  rw [← he] at h3
  exact ⟨h1, by omega, by omega, h4, h5, by omega⟩
theorem sum3_int {q a b d e : Nat} (h1 : (q + a + b) % 256 = d) (h2 : (q + a + b) / 256 = e) : ((q : Int) + (a : Int) + (b : Int)) % 256 = (d : Int) ∧ ((q : Int) + (a : Int) + (b : Int)).tdiv 256 = (e : Int) :=
  ⟨by omega, by rw [Int.tdiv_eq_ediv_of_nonneg (by omega)]; omega⟩
set_option maxRecDepth 100000 in
set_option maxHeartbeats 1000000 in
theorem rPlus_c (x y : Nat) (w : World) (hx : nd 256 x ≤ 900000000) (hy : nd 256 y ≤ 900000000) :
    Calls Try.prog 72 #[.string (natS x), .string (natS y)] w fun e w' => e = .returned (.string (natS (x + y))) ∧ Below w.heap.size w w' := by
  obtain ⟨i0, hi0, hz0, hj1, hj2⟩ := info_parts (P := Try.prog) (e := 3) (z := .int .i64 0) (size := 1) (bytes := 8) (by kernel_rfl)
  have KX := Lib.hid (fun w => rDigits_c x w (by omega))
  have KY := Lib.hid (fun w => rDigits_c y w (by omega))
  obtain ⟨X, hX⟩ : ∃ X, X = nd 256 x := ⟨_, rfl⟩
  obtain ⟨Y, hY⟩ : ∃ Y, Y = nd 256 y := ⟨_, rfl⟩
  obtain ⟨M, hM1, hM2, hM3⟩ : ∃ M, X ≤ M ∧ Y ≤ M ∧ M ≤ 900000000 := ⟨max X Y, by omega, by omega, by omega⟩
  rw [← hX] at KX
  rw [← hY] at KY
  have HX := Lib.hid hX
  have HY := Lib.hid hY
  clear hX hY hx hy
  go_enter Try.func72, Try.ntmps72
  go_wp2_with fail
  refine (KX.out _).mono ?_
  rintro e w1 ⟨v1, rfl, ho1, hb1⟩
  obtain ⟨A1, c1, rfl, hc1⟩ := ho1.len
  rw [dl_length] at ho1 hc1 ⊢
  have HO1 := Lib.hid ho1
  clear ho1 hc1
  go_wp2_with fail
  refine (KY.out _).mono ?_
  rintro e w2 ⟨v2, rfl, ho2, hb2⟩
  obtain ⟨A2, c2, rfl, hc2⟩ := ho2.len
  rw [dl_length] at ho2 hc2 ⊢
  have HO2 := Lib.hid ho2
  have HO3 := Lib.hid (HO1.out.whole hb2)
  have hb12 := below_chain hb1 hb2
  clear ho2 hc2 HO1 hb1
  go_wp2_with fail
  go_loopw [7, 8, 9] (fun v m i wr => ∃ (k q : Nat), k ≤ M + 1 ∧ i = .int .i64 k ∧ m = .int .i64 q ∧ Hid (q = car 256 x y k) ∧ Hid (Own wr w2.heap.size 3 .i64 v (dl 256 (x + y) k)) ∧ Below w2.heap.size w2 wr) (fun _ _ i _ => M + 1 - (intOf i).toNat)
  case atStart => exact ⟨0, 0, by omega, rfl, rfl, Lib.hid (car_zero _ _ _).symm, Lib.hid (Own.nil _ _ _ _), Below.refl _ _⟩
  case round =>
    obtain ⟨k, q, hk, rfl, rfl, hq, hown, hb⟩ := hrel
    by_cases hstop : X ≤ k ∧ Y ≤ k ∧ q = 0
    · obtain ⟨h1, h2, rfl⟩ := hstop
      have h1' : ¬ k < X := by omega
      have h2' : ¬ k < Y := by omega
      have HE := Lib.hid (plus_end (x := x) (y := y) (k := k) (by have := HX.out; omega) (by have := HY.out; omega) hq.out.symm)
      have HL : Hid ((dl 256 (x + y) k).length ≤ 1000000000) := Lib.hid (by rw [dl_length]; omega)
      go_wp2_with fail
      refine (rMade_c _ _ _ _ (dl_lt256 (x + y) k) HL.out hown.out).mono ?_
      rintro e w' ⟨rfl, hb'⟩
      go_wp2_with fail
      go_ret
      exact ⟨by rw [HE.out]; rfl, below_chain hb12 (below_chain hb hb')⟩
    · obtain ⟨d, hd⟩ : ∃ d, d = dgt 256 (x + y) k := ⟨_, rfl⟩
      obtain ⟨e, he⟩ : ∃ e, e = car 256 x y (k + 1) := ⟨_, rfl⟩
      obtain ⟨hq1, hdd, hee, ha, hbb, hd256⟩ := plus_num hq.out hd he
      have hkM : k ≤ M := by
        rcases Nat.lt_or_ge M k with c | c
        · exact absurd ⟨by omega, by omega, hq.out.trans (car_far (by have := HX.out; omega) (by have := HY.out; omega))⟩ hstop
        · exact c
      have K1 := rAt_c x X k _ A1 c1 wr (by have := HX.out; omega) (by omega) (by omega) (HO3.out.whole hb)
      have K2 := rAt_c y Y k _ A2 c2 wr (by have := HY.out; omega) (by omega) (by omega) (HO2.out.whole hb)
      generalize dgt 256 x k = a at *
      generalize dgt 256 y k = b at *
      have H1 := Lib.hid K1
      have H2 := Lib.hid K2
      have hw1 : wrap64 ((q : Int) + (a : Int)) = (q : Int) + (a : Int) := IntWalk.wrap64_in _ (by omega)
      obtain ⟨hdI, hqq⟩ := sum3_int hdd hee
      have hlen : Hid ((dl 256 (x + y) k).length + 1 ≤ 17592186044416) := Lib.hid (by rw [dl_length]; omega)
      have HD := Lib.hid hd
      have HE := Lib.hid he
      have HS := Lib.hid hstop
      clear K1 K2 hd hdd hee hstop
      have hcase : k < X ∨ (¬ k < X ∧ k < Y) ∨ (¬ k < X ∧ ¬ k < Y ∧ 0 < q) := by
        by_cases c1 : k < X
        · exact Or.inl c1
        · by_cases c2 : k < Y
          · exact Or.inr (Or.inl ⟨c1, c2⟩)
          · exact Or.inr (Or.inr ⟨c1, c2, Nat.pos_of_ne_zero (fun c3 => HS.out ⟨Nat.le_of_not_lt c1, Nat.le_of_not_lt c2, c3⟩)⟩)
      have hkb : k ≤ 900000000 := by omega
      have he1 : e ≤ 1 := he ▸ car_le (b := 256) (by omega) x y (k + 1)
      have HKM := Lib.hid hkM
      have HK := Lib.hid hk
      have HM1 := Lib.hid hM1
      have HM2 := Lib.hid hM2
      clear hkM hk hM1 hM2 hM3 he
      rcases hcase with h | ⟨h, h'⟩ | ⟨h, h', h''⟩
      all_goals
        go_wp2_with fail
        refine H1.out.mono ?_
        rintro e w' ⟨rfl, rfl⟩
        go_wp2_with fail
        refine H2.out.mono ?_
        rintro e w' ⟨rfl, rfl⟩
        go_wp2_with (at_builtin; go_loud (refine wpList_app1 wr rfl (.tmp 39) (.tmp 42) _ rfl w2.heap.size 3 3 i0 .i64 8 Try.underlying80 hi0 hz0 hj1 hj2 (by omega) _ (dl 256 (x + y) k) d rfl rfl hown.out hlen.out hb.size ?_); intro v5 w5 hown5 hb5 hfr5 hnw5)
        rw [HD.out, ← dl_succ] at hown5
        have HO5 := Lib.hid hown5
        clear hown5 hfr5 hnw5
        go_roundw
        case rel => exact ⟨k + 1, _, by have := HKM.out; omega, by go_num, rfl, HE, HO5, hb.trans hb5⟩
        case measure =>
          have := HKM.out
          clear hdI hqq hw1 hq1
          simp [intOf]; omega
set_option maxRecDepth 100000 in
theorem rAdd_c (x y : Nat) (w : World) (hx : fits x) (hy : fits y) :
    Calls Try.prog 37 #[.string (natS x), .string (natS y)] w (StrPost (resS (x + y)) (resE (x + y)) w) := by
  have KP := Lib.hid (fun w => rPlus_c x y w (by unfold fits at hx; omega) (by unfold fits at hy; omega))
  have KE := Lib.hid (fun w => rEnded_c (x + y) w (by unfold fits at hx hy; have := nd_add hx hy; omega))
  clear hx hy
  go_enter Try.func37, Try.ntmps37
  go_wp2_with fail
  refine (KP.out _).mono ?_
  rintro e w1 ⟨rfl, hb1⟩
  go_wp2_with fail
  refine (KE.out _).mono ?_
  rintro e w2 ⟨rfl, rfl⟩
  go_wp2_with fail
  go_ret2
  exact ⟨rfl, hb1⟩
end Go.Proofs.Ytjcicbnjoffbhaa
