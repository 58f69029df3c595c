/- Contract of the document: Text. -/
import Derived.Test.YtjcicbnjoffbhaaN79
set_option linter.unusedSimpArgs false
set_option linter.unusedVariables false
namespace Go.Proofs.Ytjcicbnjoffbhaa
open Go Go.RowKit Nt

set_option maxRecDepth 100000 in
theorem rText_zero (w : World) :
    Calls Try.prog 54 #[.string (natS 0)] w (fun e w' => e = .returned (.string (decS 0)) ∧ Below w.heap.size w w') := by
  have hE := natS_empty (n := 0) rfl
  have HD := Lib.hid decS_zero
  go_enter Try.func54, Try.ntmps54
  go_wp2_with fail
  go_ret
  exact ⟨by rw [HD.out]; rfl, Below.refl _ _⟩
set_option maxRecDepth 100000 in
set_option maxHeartbeats 4000000 in
theorem rText_c (n : Nat) (w : World) (hn : nd 256 n ≤ 16384) (h0 : n ≠ 0) :
    Calls Try.prog 54 #[.string (natS n)] w (fun e w' => e = .returned (.string (decS n)) ∧ Below w.heap.size w w') := by
  obtain ⟨i0, hi0, hz0, hj1, hj2⟩ := info_parts (P := Try.prog) (e := 5) (z := .int .u8 0) (size := 1) (bytes := 1) (by kernel_rfl)
  have hF := natS_full h0
  have hF2 := natS_full2 h0
  have HD := Lib.hid (decS_pos h0)
  have HND : Hid (nd 10 n ≤ 16384 * 8) := Lib.hid (by
    have h1 : nd 2 n ≤ 8 * 16384 := (bits_le n 16384).2 hn
    have h2 : n < 10 ^ nd 2 n := Nat.lt_of_lt_of_le (lt_nd (b := 2) (by omega)) (Nat.pow_le_pow_left (by omega) _)
    have := nd_le (b := 10) (by omega) h2
    omega)
  have KX := Lib.hid (fun w => rDigits_c n w (by omega))
  obtain ⟨N, hN⟩ : ∃ N, N = nd 256 n := ⟨_, rfl⟩
  rw [← hN] at KX hn
  have HN := Lib.hid hN
  have H0 := Lib.hid h0
  clear hN h0
  go_enter Try.func54, Try.ntmps54
  go_wp2_with fail
  refine (KX.out _).mono ?_
  rintro e w1 ⟨v1, rfl, ho1, hb1⟩
  rcases ho1.form with ⟨rfl, hnil⟩ | ⟨g, cap, cs, rfl, hgB, hgw, hblk, hcap, hcap2, hcs⟩
  · exfalso
    have h1 := congrArg List.length hnil
    rw [dl_length, HN.out] at h1
    exact H0.out ((nd_eq_zero (b := 256) (by omega)).1 h1)
  rw [dl_length] at ho1 ⊢
  have HO1 := Lib.hid ho1
  clear ho1 hcs hcap hcap2 hblk hF hF2
  go_wp2_with fail
  go_loopg [4, 5] n (fun G x y wr => ∃ (m L j : Nat), y = .int .i64 j ∧ j ≤ N ∧ Hid (j = nd 256 m) ∧ Hid (Own wr w.heap.size 3 .i64 (.slice (some ⟨g, 0, none⟩) N cap) (dl 256 m N)) ∧ Hid (Own wr (g + 1) 5 .u8 x (digs n L)) ∧ Hid (m = n / 10 ^ L) ∧ Hid (L ≤ nd 10 n) ∧ m ≤ G ∧ Below w.heap.size w wr ∧ g < wr.heap.size)
  case atStart => exact ⟨n, 0, N, rfl, Nat.le_refl _, HN, HO1, Lib.hid (Own.nil _ _ _ _), Lib.hid (by rw [Nat.pow_zero, Nat.div_one]), Lib.hid (Nat.zero_le _), Nat.le_refl _, hb1, hgw⟩
  case round =>
    obtain ⟨m, L, j, rfl, hj, hjm, hl, hown, hm, hL, hG, hbw, hgr⟩ := hrel
    by_cases hm0 : m = 0
    · subst hm0
      obtain rfl : j = 0 := by rw [hjm.out, nd_zero]
      have hLn : L = nd 10 n := by
        have h1 : n < 10 ^ L := by
          rcases Nat.lt_or_ge n (10 ^ L) with h | h
          · exact h
          · have := Nat.div_pos h (Nat.pow_pos (n := L) (show 0 < 10 by omega)); have := hm.out; omega
        have := nd_le (b := 10) (by omega) h1
        have := hL.out; omega
      subst hLn
      have hown2 := hown.out
      obtain ⟨D, hD⟩ : ∃ D, D = nd 10 n := ⟨_, rfl⟩
      have hlen := digs_length n D
      rw [← hD] at hown2
      have HND2 := HND
      rw [← hD] at HND2
      have hdpos : D ≠ 0 := fun c => H0.out ((nd_eq_zero (b := 10) (by omega)).1 (hD.symm.trans c))
      rcases hown2.form with ⟨rfl, hnil⟩ | ⟨g2, cap2, cs, rfl, hgB2, hgw2, hblk2, hcap2, hcap3, hcs2⟩
      · exfalso
        rw [hnil] at hlen
        exact hdpos hlen.symm
      · rw [hlen]
        have hC : ∀ p, p < D → cs[p]? = some (.int .u8 ((48 + dgt 10 n p : Nat) : Int)) := fun p hp => by
          have h1 : p < (digs n D).length := by rw [hlen]; exact hp
          rw [hcs2 p h1, digs_get n D p h1]
        have HC := Lib.hid hC
        have HB := Lib.hid hblk2
        have HDD := Lib.hid hD
        have HHD := Lib.hid HND2.out
        have hD8 : D ≤ 131072 := by have := HND2.out; omega
        have hw : wrap64 ((D : Int) - 1) = (D : Int) - 1 := IntWalk.wrap64_in _ (by omega)
        have hg2w : w.heap.size ≤ g2 := by omega
        have HDP := Lib.hid hdpos
        clear hC hcs2 hblk2 hlen hown2 hown hl hm hL hjm hD HND2 hgB2 hcap2 hcap3 hG hj hdpos
        go_wp2_with fail
        go_loopw [8, 9] (fun x y wr => ∃ (i : Nat) (z : Int) (cs : Array Value), x = .int .i64 i ∧ y = .int .i64 z ∧ Hid (z = (D : Int) - 1 - (i : Int)) ∧ Hid (2 * i ≤ D + 1) ∧ Hid (Blk wr g2 5 cs) ∧ Hid (∀ j, j < D → cs[j]? = some (.int .u8 (swF (fun p => 48 + dgt 10 n p) D i j : Nat))) ∧ Below w.heap.size w wr) (fun x _ _ => D - (intOf x).toNat)
        case atStart => exact ⟨0, (D : Int) - 1, cs, rfl, rfl, Lib.hid (by omega), Lib.hid (by omega), HB, Lib.hid (fun j hj => by rw [HC.out j hj]; unfold swF; rw [if_neg (by have := HDP.out; omega)]), hbw⟩
        case round =>
          obtain ⟨i, z, cs', rfl, rfl, hz, hi, hblk, hcs, hbw⟩ := hrel
          by_cases hlt : i < D - 1 - i
          · obtain ⟨j, hj⟩ : ∃ j, D = i + 1 + j := ⟨D - i - 1, by omega⟩
            have hjz : z = (j : Int) := by have := hz.out; omega
            have hij : i < j := by omega
            have HJ := Lib.hid hj
            have hin : i < D := by omega
            have hjn : j < D := by omega
            have c1 := hblk.out.cell i
            rw [hcs.out i hin] at c1
            have c2 := hblk.out.cell j
            rw [hcs.out j hjn] at c2
            have f1 := hblk.out.frozen i
            have f2 := hblk.out.frozen j
            have e1 : swF (fun p => 48 + dgt 10 n p) D i i = 48 + dgt 10 n i := by unfold swF; rw [if_neg (by omega)]
            have e2 : swF (fun p => 48 + dgt 10 n p) D i j = 48 + dgt 10 n j := by unfold swF; rw [if_neg (by omega)]
            rw [e1] at c1
            rw [e2] at c2
            have hst := sw_set hcs.out hlt
            rw [show D - 1 - i = j by omega] at hst
            generalize ha : 48 + dgt 10 n i = a at *
            generalize hb : 48 + dgt 10 n j = b at *
            have HST := Lib.hid hst
            have b1 := Lib.hid ((hblk.out.set_ i (.int .u8 (b : Nat))).set_ j (.int .u8 (a : Nat)))
            have bb := (hbw.setCell (p := ⟨g2, i, none⟩) hg2w (.int .u8 (b : Nat))).setCell (p := ⟨g2, j, none⟩) hg2w (.int .u8 (a : Nat))
            have c2' : (wr.setCell ⟨g2, i, none⟩ (.int .u8 (b : Nat))).cell? ⟨g2, j, none⟩ = some (.int .u8 (b : Nat)) := by
              rw [(hblk.out.set_ i _).cell, Array.getElem?_setIfInBounds_ne (by omega), ← hblk.out.cell]
              exact c2
            have f2' : (wr.setCell ⟨g2, i, none⟩ (.int .u8 (b : Nat))).frozen? ⟨g2, j, none⟩ = false := (hblk.out.set_ i _).frozen j
            have hw2 : wrap64 ((j : Int) - 1) = (j : Int) - 1 := IntWalk.wrap64_in _ (by omega)
            have Hi := Lib.hid hi
            have HA := Lib.hid ha
            have HBB := Lib.hid hb
            subst hjz
            clear hst hj hlt e1 e2 ha hb
            go_wp2_with fail
            go_roundw
            case rel =>
              exact ⟨i + 1, (j : Int) - 1, _, by go_num, rfl, Lib.hid (by have := HJ.out; omega), Lib.hid (by have := HJ.out; omega), b1, HST, bb⟩
            case measure => simp [intOf]; omega
          · have hnl : ¬ (i : Int) < z := by have := hz.out; omega
            have HL := Lib.hid hlt
            clear hlt
            have hcv : (convert 75 9 (.slice (some ⟨g2, 0, none⟩) D cap2)).run Try.prog wr = .ok (.string (decS n)) wr := by
              rw [HD.out]
              have hl : ((digs n (nd 10 n)).reverse.map UInt8.ofNat).length = D := by rw [List.length_map, List.length_reverse, digs_length, HDD.out]
              have h := run_convert_bytes_back (P := Try.prog) wr 75 9 5 ⟨g2, 0, none⟩ cap2 ((digs n (nd 10 n)).reverse.map UInt8.ofNat) Try.underlying75 Try.underlying5 Try.underlying9 (fun p hp => by
                have hp' : p < D := by rw [← hl]; exact hp
                have e : swF (fun p => 48 + dgt 10 n p) D i p = 48 + dgt 10 n (nd 10 n - 1 - p) := by
                  have h1 := HL.out
                  have h2 := hi.out
                  have h3 := HDD.out
                  unfold swF
                  by_cases h4 : p < i ∨ D - i ≤ p
                  · rw [if_pos h4, h3]
                  · rw [if_neg h4]
                    show 48 + dgt 10 n p = _
                    congr 2; omega
                rw [add_plain0, hblk.out.cell, hcs.out p hp', e, List.getElem_map, List.getElem_reverse, digs_get, digs_length, UInt8.toNat_ofNat', Nat.mod_eq_of_lt]
                have := dgt_lt (b := 10) (by omega) n (nd 10 n - 1 - p); omega)
              rw [hl] at h
              exact h
            go_wp2_with fail
            go_ret
            exact ⟨rfl, hbw⟩
    · obtain ⟨jj, rfl⟩ : ∃ jj, j = jj + 1 := by
        refine ⟨j - 1, ?_⟩
        have : nd 256 m ≠ 0 := fun c => hm0 ((nd_eq_zero (by omega)).1 c)
        have := hjm.out
        omega
      have hN4 : N ≤ 16384 := hn
      have HR0 := Lib.hid (ten_first hjm.out)
      have HL0 : Hid (Own wr w.heap.size 3 .i64 (.slice (some ⟨g, 0, none⟩) N cap) ((List.range N).map (tenF m (jj + 1)))) := Lib.hid (by
        rw [hjm.out, tenF_start]; exact hl.out)
      have HM0 := Lib.hid hm0
      have HHG := Lib.hid hG
      have hjI : ((jj + 1 : Nat) : Int) - 1 = (jj : Int) := by omega
      clear hl hm0 hG
      go_wp2_with fail
      go_loopw [6, 7] (fun r ii wr2 => ∃ (k R : Nat) (z : Int), ii = .int .i64 z ∧ z + 1 = (k : Int) ∧ k ≤ jj + 1 ∧ r = .int .i64 R ∧ Hid (R = m / 256 ^ k % 10) ∧ Hid (Own wr2 w.heap.size 3 .i64 (.slice (some ⟨g, 0, none⟩) N cap) ((List.range N).map (tenF m k))) ∧ Hid (Own wr2 (g + 1) 5 .u8 u4 (digs n L)) ∧ Below w.heap.size w wr2 ∧ g < wr2.heap.size) (fun _ ii _ => (intOf ii + 1).toNat)
      case atStart => exact ⟨jj + 1, 0, _, rfl, (by first | rfl | omega | go_num), Nat.le_refl _, rfl, Lib.hid HR0.out.symm, HL0, hown, hbw, hgr⟩
      case round =>
        obtain ⟨k, R, z, rfl, hz, hk, rfl, hR, hl2, hown2, hbw2, hgr2⟩ := hrel
        rcases Nat.eq_zero_or_pos k with rfl | hkp
        · obtain rfl : z = -1 := by omega
          have hRm : R = dgt 10 n L := by
            rw [hR.out, Nat.pow_zero, Nat.div_one, hm.out, dgt_def]
          have hR10 : R < 10 := by rw [hRm]; exact dgt_lt (by omega) _ _
          have HLE : Hid (Own wr w.heap.size 3 .i64 (.slice (some ⟨g, 0, none⟩) N cap) (dl 256 (m / 10) N)) := Lib.hid (by rw [← tenF_end]; exact hl2.out)
          have HLM : Hid (L + 1 ≤ nd 10 n) := Lib.hid ((pow_le_iff (b := 10) (by omega) _ _).1 (by
            rcases Nat.lt_or_ge n (10 ^ L) with c | c
            · exact absurd (by rw [hm.out]; exact Nat.div_eq_of_lt c) HM0.out
            · exact c))
          obtain ⟨y, hy⟩ : ∃ y, y = 48 + R := ⟨_, rfl⟩
          have hyI : (48 : Int) + (R : Int) = (y : Int) := by omega
          have hyw : IntKind.u8.wrap (y : Int) = (y : Int) := by rw [wrap_u8]; omega
          have HDG := Lib.hid (show digs n (L + 1) = digs n L ++ [y] by rw [digs_succ, hy, hRm])
          have hlen : Hid ((digs n L).length + 1 ≤ 17592186044416) := Lib.hid (by rw [digs_length]; have := HND.out; have := hL.out; omega)
          have HZ : Hid (nd 256 (m / 10) ≤ jj + 1) := Lib.hid (by rw [hjm.out]; exact nd_mono (by omega) (Nat.div_le_self _ _))
          have hy8 : y < 58 := by omega
          clear hRm hy hl2 hR hk
          go_wp2_with (at_builtin; go_loud (refine wpList_app1 wr rfl (.tmp 39) (.tmp 43) _ rfl (g + 1) 5 5 i0 .u8 1 Try.underlying75 hi0 hz0 hj1 hj2 (by omega) _ (digs n L) y rfl rfl hown2.out hlen.out hgr2 ?_); intro v5 w5 hown5 hb5 hfr5 hnw5)
          rw [← HDG.out] at hown5
          have HO5 := Lib.hid hown5
          have HL5 : Hid (Own w5 w.heap.size 3 .i64 (.slice (some ⟨g, 0, none⟩) N cap) (dl 256 (m / 10) N)) := Lib.hid (HLE.out.below hb5 (fun g' e => by
            have : g = g' := Option.some.inj e
            omega))
          have hbw5 : Below w.heap.size w w5 := hbw2.trans (hb5.mono (by omega))
          have hgr5 : g < w5.heap.size := Nat.lt_of_lt_of_le hgr2 hb5.size
          clear hown5 hfr5 hnw5 hb5 HLE hown2 hbw2 hgr2
          have HM10 : Hid (m / 10 = n / 10 ^ (L + 1)) := Lib.hid (by rw [hm.out, Nat.div_div_eq_div_mul, Nat.pow_succ])
          have HLT : Hid (m / 10 < m) := Lib.hid (Nat.div_lt_self (Nat.pos_of_ne_zero HM0.out) (by omega))
          clear hyI hyw
          go_loopw [5] (fun nn wr3 => ∃ q : Nat, nn = .int .i64 q ∧ q ≤ N ∧ Hid (nd 256 (m / 10) ≤ q) ∧ Hid (Own wr3 w.heap.size 3 .i64 (.slice (some ⟨g, 0, none⟩) N cap) (dl 256 (m / 10) N)) ∧ Hid (Own wr3 (g + 1) 5 .u8 v5 (digs n (L + 1))) ∧ Below w.heap.size w wr3 ∧ g < wr3.heap.size) (fun nn _ => (intOf nn).toNat)
          case atStart => exact ⟨jj + 1, rfl, hj, HZ, HL5, HO5, hbw5, hgr5⟩
          case round =>
            obtain ⟨q, rfl, hq, hz6, hl6, ho6, hb6, hg6⟩ := hrel
            rcases Nat.eq_zero_or_pos q with rfl | hqp
            · have HQ : Hid (0 = nd 256 (m / 10)) := Lib.hid (by have := hz6.out; omega)
              go_wp2_with fail
              go_roundg (m / 10)
              case rel => exact ⟨m / 10, L + 1, 0, rfl, Nat.zero_le _, HQ, hl6, ho6, HM10, HLM, Nat.le_refl _, hb6, hg6⟩
              case measure => have := HHG.out; have := HLT.out; omega
            · obtain ⟨p, rfl⟩ : ∃ p, q = p + 1 := ⟨q - 1, by omega⟩
              have hpI : ((p + 1 : Nat) : Int) - 1 = (p : Int) := by omega
              obtain ⟨g', cap', e1, hgB', hga, hcx, hfx⟩ := hl6.out.cell (j := p) (by rw [dl_length]; omega)
              injection e1 with e1 e2 e3
              injection e1 with e1
              injection e1 with e1 _ _
              subst e1
              rw [dl_get] at hcx
              have hq0 : (0 : Int) < ((p + 1 : Nat) : Int) := by omega
              by_cases hd0 : dgt 256 (m / 10) p = 0
              · rw [hd0] at hcx
                have HT := Lib.hid (trim_more hz6.out hd0)
                clear hd0 e2 e3 hqp
                go_wp2_with fail
                go_roundw
                case rel => exact ⟨p, by go_num, by omega, HT, hl6, ho6, hb6, hg6⟩
                case measure => simp [intOf]
              · have HT := Lib.hid (trim_end hz6.out hd0).symm
                generalize dgt 256 (m / 10) p = d at *
                have hdI : ((d : Int) == 0) = false := by rw [beq_eq_false_iff_ne]; omega
                have hdI2 : ¬ (d : Int) = 0 := by omega
                have hd2 : ¬ d = 0 := hd0
                clear e2 e3 hqp
                go_wp2_with fail
                go_roundg (m / 10)
                case rel => exact ⟨m / 10, L + 1, p + 1, rfl, hq, HT, hl6, ho6, HM10, HLM, Nat.le_refl _, hb6, hg6⟩
                case measure => have := HHG.out; have := HLT.out; omega
        · obtain ⟨k', rfl⟩ : ∃ k', k = k' + 1 := ⟨k - 1, by omega⟩
          obtain rfl : z = (k' : Int) := by omega
          obtain ⟨g', cap', e1, hgB', hga, hcx, hfx⟩ := hl2.out.cell (j := k') (by simp; omega)
          injection e1 with e1 e2 e3
          injection e1 with e1
          injection e1 with e1 _ _
          subst e1
          obtain ⟨d, hd⟩ : ∃ d, d = dgt 256 m k' := ⟨_, rfl⟩
          obtain ⟨q, hq⟩ : ∃ q, q = dgt 256 (m / 10) k' := ⟨_, rfl⟩
          obtain ⟨r, hr⟩ : ∃ r, r = m / 256 ^ k' % 10 := ⟨_, rfl⟩
          obtain ⟨t1, t2, t3, t4, t5, t6⟩ := ten_digit hR.out hd hq hr
          have hcx2 : wr.cell? ⟨g, k', none⟩ = some (.int .i64 (d : Nat)) := by rw [hcx, hd]; simp [tenF]
          obtain ⟨V, hV⟩ : ∃ V, V = 256 * R + d := ⟨_, rfl⟩
          have hVI : 256 * (R : Int) + (d : Int) = (V : Int) := by omega
          rw [hVI] at t1 t2
          have hV8 : V ≤ 2600 := by omega
          have HO2 : Hid (Own (wr.setCell ⟨g, k', none⟩ (.int .i64 (q : Nat))) w.heap.size 3 .i64 (.slice (some ⟨g, 0, none⟩) N cap) ((List.range N).map (tenF m k'))) := Lib.hid (by
            rw [← tenF_step, ← hq]; exact hl2.out.set_ k' q)
          have HO3 : Hid (Own (wr.setCell ⟨g, k', none⟩ (.int .i64 (q : Nat))) (g + 1) 5 .u8 u4 (digs n L)) := Lib.hid (hown2.out.far (p := ⟨g, k', none⟩) (Nat.lt_succ_self g) _)
          have hb2 := hbw2.setCell (p := ⟨g, k', none⟩) hgB (.int .i64 (q : Nat))
          have hgr3 : g < (wr.setCell ⟨g, k', none⟩ (.int .i64 (q : Nat))).heap.size := by simpa [World.setCell] using hgr2
          have HR2 := Lib.hid hr
          clear hcx hl2 hown2 e2 e3 hd hq hr hV hz hkp
          go_wp2_with fail
          go_roundw
          case rel => exact ⟨k', r, _, by go_num, (by first | omega | go_num), by omega, by rw [t2], HR2, HO2, HO3, hb2, hgr3⟩
          case measure => simp [intOf]
end Go.Proofs.Ytjcicbnjoffbhaa
