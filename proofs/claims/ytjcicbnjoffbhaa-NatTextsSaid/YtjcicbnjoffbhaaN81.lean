/- Contract of the document: Read. -/
import Derived.Test.YtjcicbnjoffbhaaN79
set_option linter.unusedSimpArgs false
set_option linter.unusedVariables false
namespace Go.Proofs.Ytjcicbnjoffbhaa
open Go Go.RowKit Nt

/-- The row while ten times x and a digit are reckoned. -/
def tmF (x y k p : Nat) : Nat := if p < k then dgt 256 y p else dgt 256 x p
theorem tmF_zero (x y L : Nat) : (List.range L).map (tmF x y 0) = dl 256 x L := by
  unfold dl
  apply List.map_congr_left
  intro p _
  unfold tmF; rw [if_neg (by omega)]
theorem tmF_end (x y k : Nat) : (List.range k).map (tmF x y k) = dl 256 y k := by
  unfold dl
  apply List.map_congr_left
  intro p hp
  unfold tmF; rw [if_pos (by simpa using hp)]
theorem tmF_app {x y k : Nat} (h : nd 256 x ≤ k) : (List.range k).map (tmF x y k) ++ [0] = (List.range (k + 1)).map (tmF x y k) := by
  rw [List.range_succ, List.map_append, List.map_singleton]
  unfold tmF
  rw [if_neg (by omega), dgt_big (by omega) h]
theorem tmF_step (x y N k : Nat) : ((List.range N).map (tmF x y k)).set k (dgt 256 y k) = (List.range N).map (tmF x y (k + 1)) := by
  refine range_set fun p _ => ?_
  unfold tmF
  by_cases c : p = k
  · rw [if_pos c, if_pos (by omega), c]
  · rw [if_neg c]
    by_cases c2 : p < k
    · rw [if_pos c2, if_pos (by omega)]
    · rw [if_neg c2, if_neg (by omega)]
theorem tmF_at (x y k : Nat) : tmF x y k k = dgt 256 x k := by unfold tmF; rw [if_neg (by omega)]
/-- One digit of ten times x and d. -/
theorem tm_digit {x d k q a s r e : Nat} (hd : d < 10) (hq : q = mca 256 x 10 d k) (ha : a = dgt 256 x k) (hs : s = q + 10 * a) (hr : r = s % 256) (he : e = s / 256) :
    r = dgt 256 (x * 10 + d) k ∧ e = mca 256 x 10 d (k + 1) ∧ q < 256 ∧ a < 256 ∧ e < 256 := by
  have h1 := dgt_mca (b := 256) (by omega) x 10 d k
  have h2 := mca_succ (b := 256) (by omega) x 10 d k
  have h3 := mca_lt (b := 256) (by omega) x 10 d k (by omega) (by omega)
  have h4 := dgt_lt (b := 256) (by omega) x k
  rw [← hq, ← ha] at h1 h2
  rw [← hq] at h3
  rw [← ha] at h4
  have e : a * 10 + q = s := by omega
  rw [e] at h1 h2
  exact ⟨by omega, by omega, h3, h4, by omega⟩
theorem tm_carry {x d k : Nat} (h : nd 256 x ≤ k) : mca 256 x 10 d k = (x * 10 + d) / 256 ^ k := by
  rw [mca_def, Nat.mod_eq_of_lt ((lt_pow_iff (by omega) _ _).2 h)]
theorem tm_end {x d k : Nat} (h : nd 256 x ≤ k) (h0 : mca 256 x 10 d k = 0) : nd 256 (x * 10 + d) ≤ k := by
  rw [tm_carry h] at h0
  refine nd_le (by omega) ?_
  rcases Nat.lt_or_ge (x * 10 + d) (256 ^ k) with c | c
  · exact c
  · have := Nat.div_pos c (Nat.pow_pos (n := k) (show 0 < 256 by omega)); omega
theorem tm_more {x d k : Nat} (h : nd 256 x ≤ k) (h0 : mca 256 x 10 d k ≠ 0) : k + 1 ≤ nd 256 (x * 10 + d) := by
  rw [tm_carry h] at h0
  refine (pow_le_iff (b := 256) (by omega) _ _).1 ?_
  rcases Nat.lt_or_ge (x * 10 + d) (256 ^ k) with c | c
  · exact absurd (Nat.div_eq_of_lt c) h0
  · exact c
set_option maxRecDepth 100000 in
theorem rRead_empty (s : ByteArray) (w : World) (h : s.size = 0) :
    Calls Try.prog 56 #[.string s] w (StrPost ⟨#[]⟩ 22 w) := by
  have hE := toList_empty h
  have H := Lib.hid h
  clear h
  go_enter Try.func56, Try.ntmps56
  go_wp2
  go_ret2
  exact ⟨rfl, Below.refl _ _⟩
set_option maxRecDepth 100000 in
theorem rRead_nought (s : ByteArray) (w : World) (h : 1 < s.size) (h0 : s[0].toNat = 48) (hs : s.size ≤ 9223372036854775807) :
    Calls Try.prog 56 #[.string s] w (StrPost ⟨#[]⟩ 22 w) := by
  have hp : 0 < s.size := by omega
  have hE := toList_full hp
  have hE2 := toList_full2 hp
  have h48 : ((s[0].toNat : Int) == 48) = true := by rw [beq_iff_eq]; omega
  have hI : (1 : Int) < (s.size : Int) := by omega
  have H0 := Lib.hid h0
  clear h0
  go_enter Try.func56, Try.ntmps56
  go_wp2
  go_ret2
  exact ⟨rfl, Below.refl _ _⟩
set_option maxRecDepth 100000 in
set_option maxHeartbeats 1000000 in
theorem rRead_bad (s : ByteArray) (w : World) (hs : s.size ≤ 9223372036854775807) (hp : 0 < s.size) (hn : ¬ (1 < s.size ∧ ∀ h : 0 < s.size, s[0].toNat = 48)) (hd : ¬ Digits s) :
    Calls Try.prog 56 #[.string s] w (StrPost ⟨#[]⟩ 22 w) := by
  have hE := toList_full hp
  have hE2 := toList_full2 hp
  have HD := Lib.hid hd
  have hh := head_no hp hn
  clear hn hd
  rcases hh with h1 | ⟨h1, h2, h3⟩
  all_goals
    go_enter Try.func56, Try.ntmps56
    go_wp2
    go_loop [4] (fun i => ∃ k : Nat, k ≤ s.size ∧ i = .int .i64 k ∧ Hid (∀ j (h : j < s.size), j < k → isDig s[j])) (fun i => s.size - (intOf i).toNat)
    case atStart => exact ⟨0, Nat.zero_le _, rfl, Lib.hid (fun j h hj => by omega)⟩
    case round =>
      obtain ⟨k, hk, rfl, hdg⟩ := hrel
      by_cases hlt : k < s.size
      · by_cases hdk : isDig s[k]
        · have hN : Hid (∀ j (h : j < s.size), j < k + 1 → isDig s[j]) := Lib.hid (fun j h hj => by
            rcases Nat.lt_or_ge j k with h4 | h4
            · exact hdg.out j h h4
            · obtain rfl : j = k := by omega
              exact hdk)
          unfold isDig at hdk
          have q1 : ¬ (s[k].toNat : Int) < 48 := by omega
          have q2 : ¬ (57 : Int) < (s[k].toNat : Int) := by omega
          clear hdk
          go_wp2
          go_round
          case rel => exact ⟨k + 1, by omega, by go_num, hN⟩
          case measure => simp [intOf]; omega
        · unfold isDig at hdk
          by_cases q1 : s[k].toNat < 48
          · have q2 : (s[k].toNat : Int) < 48 := by omega
            clear hdk
            go_wp2
            go_ret2
            exact ⟨rfl, Below.refl _ _⟩
          · have q2 : ¬ (s[k].toNat : Int) < 48 := by omega
            have q3 : (57 : Int) < (s[k].toNat : Int) := by omega
            clear hdk
            go_wp2
            go_ret2
            exact ⟨rfl, Below.refl _ _⟩
      · exact absurd (fun j h => hdg.out j h (by omega)) HD.out
set_option maxRecDepth 100000 in
set_option maxHeartbeats 4000000 in
theorem rRead_ok (s : ByteArray) (w : World) (hs : s.size ≤ 9223372036854775807) (hv : Valid s) (hlong : 39457 < s.size → ¬ fits (preV s s.size)) :
    Calls Try.prog 56 #[.string s] w (StrPost (resS (preV s s.size)) (resE (preV s s.size)) w) := by
  obtain ⟨i0, hi0, hz0, hj1, hj2⟩ := info_parts (P := Try.prog) (e := 3) (z := .int .i64 0) (size := 1) (bytes := 8) (by kernel_rfl)
  obtain ⟨hp, hd, hn⟩ := hv
  have hE := toList_full hp
  have hE2 := toList_full2 hp
  have HD := Lib.hid hd
  have hh := head_no hp hn
  have HL := Lib.hid hlong
  clear hn hd hlong
  rcases hh with h1 | ⟨h1, h2, h3⟩
  all_goals
    go_enter Try.func56, Try.ntmps56
    go_wp2
    go_loop [4] (fun i => ∃ k : Nat, k ≤ s.size ∧ i = .int .i64 k) (fun i => s.size - (intOf i).toNat)
    case atStart => exact ⟨0, Nat.zero_le _, rfl⟩
    case round =>
      obtain ⟨k, hk, rfl⟩ := hrel
      by_cases hlt : k < s.size
      · obtain ⟨q1, q2⟩ := first_no HD.out k hlt
        go_wp2
        go_round
        case rel => exact ⟨k + 1, by omega, by go_num⟩
        case measure => simp [intOf]; omega
      · obtain rfl : k = s.size := by omega
        by_cases hbig : 49152 < s.size
        · have hbI : (49152 : Int) < (s.size : Int) := by omega
          have e1 := Lib.hid (resS_no (HL.out (by omega)))
          have e2 := Lib.hid (resE_no (HL.out (by omega)))
          go_wp2
          go_ret2
          exact ⟨by rw [e1.out, e2.out]; rfl, Below.refl _ _⟩
        · have hbI : ¬ (49152 : Int) < (s.size : Int) := by omega
          have hsz : s.size ≤ 49152 := by omega
          have hszI : (s.size : Int) ≤ 49152 := by omega
          go_wp2
          go_loopw [5, 6] (fun v ii wr => ∃ (i x h c : Nat) (A : Option Addr), i ≤ s.size ∧ ii = .int .i64 i ∧ v = .slice A h c ∧ h ≤ 49152 ∧ Hid (x = preV s i) ∧ Hid (nd 256 x = h) ∧ Hid (Own wr w.heap.size 3 .i64 (.slice A h c) (dl 256 x h)) ∧ Below w.heap.size w wr) (fun _ ii _ => s.size - (intOf ii).toNat)
          case atStart =>
            exact ⟨0, 0, 0, 0, none, Nat.zero_le _, rfl, rfl, by omega, Lib.hid (preV_zero s).symm, Lib.hid (nd_zero _), Lib.hid (Own.nil _ _ _ _), Below.refl _ _⟩
          case round =>
            obtain ⟨i, x, h, c, A, hi, rfl, rfl, hh8, hx, hnx, hown, hb⟩ := hrel
            by_cases hlt : i < s.size
            · obtain ⟨d, hdd⟩ : ∃ d, d = s[i].toNat - 48 := ⟨_, rfl⟩
              have hdig := HD.out i hlt
              unfold isDig at hdig
              have hd10 : d < 10 := by omega
              have hpre := preV_succ s i hlt
              rw [← hdd, ← hx.out] at hpre
              have w2 : IntKind.u8.wrap ((s[i].toNat : Int) - 48) = (d : Int) := by rw [show (s[i].toNat : Int) - 48 = ((d : Nat) : Int) by omega, wrap_u8]; omega
              have w3 : wrap64 (d : Int) = (d : Int) := IntWalk.wrap64_in _ (by omega)
              obtain ⟨y, hy⟩ : ∃ y, y = x * 10 + d := ⟨_, rfl⟩
              have hyv : y = preV s (i + 1) := by rw [hpre, hy, Nat.mul_comm]
              have hny : nd 256 y ≤ 49152 := by
                have h5 := dig_pre HD.out (i + 1) (by omega)
                rw [← hyv] at h5
                exact Nat.le_trans (nd_le (b := 256) (by omega) (Nat.lt_of_lt_of_le h5 (Nat.pow_le_pow_left (by omega) _))) (by omega)
              have hxy : h ≤ nd 256 y := by
                have h5 : x ≤ y := by rw [hy]; exact Nat.le_trans (Nat.le_mul_of_pos_right x (show 0 < 10 by decide)) (Nat.le_add_right _ _)
                rw [← hnx.out]; exact nd_mono (by decide) h5
              have HNY := Lib.hid hny
              have HXY := Lib.hid hxy
              have HYV := Lib.hid hyv
              have HY := Lib.hid hy
              have HI := Lib.hid hi
              have HO1 : Hid (Own wr w.heap.size 3 .i64 (.slice A h c) ((List.range h).map (tmF x y 0))) := Lib.hid (by rw [tmF_zero]; exact hown.out)
              clear hdd hdig hpre hy hyv hny hxy hown hi
              go_wp2_with fail
              go_loopw [5, 7, 8] (fun v m kk wr2 => ∃ (k q h' c' : Nat) (A' : Option Addr), kk = .int .i64 k ∧ m = .int .i64 q ∧ v = .slice A' h' c' ∧ k ≤ h' ∧ h' ≤ 49152 ∧ Hid (h ≤ h') ∧ Hid (h' ≤ nd 256 y) ∧ Hid (q = mca 256 x 10 d k) ∧ Hid (Own wr2 w.heap.size 3 .i64 (.slice A' h' c') ((List.range h').map (tmF x y k))) ∧ Below w.heap.size w wr2) (fun _ _ kk _ => 49152 - (intOf kk).toNat)
              case atStart => exact ⟨0, d, h, c, A, rfl, rfl, rfl, Nat.zero_le _, hh8, Lib.hid (Nat.le_refl _), HXY, Lib.hid (mca_zero _ _ _ _).symm, HO1, hb⟩
              case round =>
                obtain ⟨k, q, h', c', A', rfl, rfl, rfl, hk, hh', hhh, hhy, hq, hown', hb'⟩ := hrel
                by_cases hstop : ¬ k < h' ∧ q = 0
                · obtain ⟨hk1, rfl⟩ := hstop
                  obtain rfl : k = h' := by omega
                  have HN2 : Hid (nd 256 y = k) := Lib.hid (by
                    have h5 := tm_end (x := x) (d := d) (k := k) (by rw [hnx.out]; exact hhh.out) hq.out.symm
                    rw [← HY.out] at h5
                    exact Nat.le_antisymm h5 hhy.out)
                  have HO2 : Hid (Own wr w.heap.size 3 .i64 (.slice A' k c') (dl 256 y k)) := Lib.hid (by rw [← tmF_end x y k]; exact hown'.out)
                  clear hown' hk hk1
                  go_wp2_with fail
                  go_roundw
                  case rel => exact ⟨i + 1, y, k, c', A', by omega, by go_num, rfl, hh', HYV, HN2, HO2, hb'⟩
                  case measure => simp [intOf]; omega
                · obtain ⟨a, ha⟩ : ∃ a, a = dgt 256 x k := ⟨_, rfl⟩
                  obtain ⟨sm, hsm⟩ : ∃ sm, sm = q + 10 * a := ⟨_, rfl⟩
                  obtain ⟨r, hr⟩ : ∃ r, r = sm % 256 := ⟨_, rfl⟩
                  obtain ⟨e, he⟩ : ∃ e, e = sm / 256 := ⟨_, rfl⟩
                  obtain ⟨t1, t2, t3, t4, t5⟩ := tm_digit hd10 hq.out ha hsm hr he
                  rw [← HY.out] at t1
                  have hsI : (q : Int) + 10 * (a : Int) = (sm : Int) := by omega
                  have hrI : (sm : Int) % 256 = (r : Int) := by omega
                  have heI : (sm : Int).tdiv 256 = (e : Int) := by rw [Int.tdiv_eq_ediv_of_nonneg (by omega)]; omega
                  have hs8 : sm ≤ 3000 := by omega
                  have hr8 : r < 256 := by omega
                  have HT1 := Lib.hid t1
                  have HT2 := Lib.hid t2
                  have HA := Lib.hid ha
                  have hcase : k < h' ∨ (k = h' ∧ 0 < q) := by
                    rcases Nat.lt_or_ge k h' with c | c
                    · exact Or.inl c
                    · exact Or.inr ⟨by omega, Nat.pos_of_ne_zero (fun c2 => hstop ⟨by omega, c2⟩)⟩
                  clear t1 t2 hsm hr he ha hstop
                  rcases hcase with hkh | ⟨rfl, hq0⟩
                  · obtain ⟨g, cap, e1, hgB, hga, hcx, hfx⟩ := hown'.out.cell (j := k) (by simpa using hkh)
                    injection e1 with e1 e2 e3
                    subst e1 e3
                    have hcx2 : wr.cell? ⟨g, k, none⟩ = some (.int .i64 (a : Nat)) := by rw [hcx, HA.out]; simp [tmF_at]
                    have hne1 : ¬ k = h' := by omega
                    have hne2 : ((k : Int) == (h' : Int)) = false := by rw [beq_eq_false_iff_ne]; omega
                    have HO2 : Hid (Own (wr.setCell ⟨g, k, none⟩ (.int .i64 (r : Nat))) w.heap.size 3 .i64 (.slice (some ⟨g, 0, none⟩) h' c') ((List.range h').map (tmF x y (k + 1)))) := Lib.hid (by
                      rw [← tmF_step, ← HT1.out]; exact hown'.out.set_ k r)
                    have hb2 := hb'.setCell (p := ⟨g, k, none⟩) hgB (.int .i64 (r : Nat))
                    clear hcx hown' e2
                    go_wp2_with fail
                    go_roundw
                    case rel => exact ⟨k + 1, e, h', c', _, by go_num, rfl, rfl, by omega, hh', hhh, hhy, HT2, HO2, hb2⟩
                    case measure => simp [intOf]; omega
                  · have hny2 : k + 1 ≤ nd 256 y := by
                      have h5 := tm_more (x := x) (d := d) (k := k) (by rw [hnx.out]; exact hhh.out) (by rw [← hq.out]; omega)
                      rw [← HY.out] at h5; exact h5
                    have hk2 : k + 1 ≤ 49152 := Nat.le_trans hny2 HNY.out
                    have HNY2 := Lib.hid hny2
                    have hlen : Hid (((List.range k).map (tmF x y k)).length + 1 ≤ 17592186044416) := Lib.hid (by simp; omega)
                    have HAPP := Lib.hid (tmF_app (x := x) (y := y) (k := k) (by rw [hnx.out]; exact hhh.out))
                    have HOW := hown'
                    have HHH : Hid (h ≤ k + 1) := Lib.hid (Nat.le_trans hhh.out (Nat.le_succ _))
                    clear hny2 hown' hk
                    have hkk : k < k + 1 := Nat.lt_succ_self k
                    go_wp2_with (at_builtin; go_loud (refine wpList_app1 wr rfl (.tmp 65) (.tmp 66) _ rfl w.heap.size 3 3 i0 .i64 8 Try.underlying80 hi0 hz0 hj1 hj2 (by omega) _ ((List.range k).map (tmF x y k)) 0 rfl rfl HOW.out hlen.out hb'.size ?_); intro v5 w5 hown5 hb5 hfr5 hnw5; (rw [HAPP.out] at hown5); (obtain ⟨g, cap, rfl, hgB, hga, hcx, hfx⟩ := hown5.cell (j := k) (by simp)); (have hcx2 : w5.cell? ⟨g, k, none⟩ = some (.int .i64 (a : Nat)) := by rw [hcx, HA.out]; simp [tmF_at]); (have HO5 : Hid (Own w5 w.heap.size 3 .i64 (.slice (some ⟨g, 0, none⟩) (k + 1) cap) ((List.range (k + 1)).map (tmF x y k))) := Lib.hid (by have h9 := hown5; rw [List.length_map, List.length_range] at h9; exact h9)); (rw [List.length_map, List.length_range]); (have hbw5 := hb'.trans hb5); (clear hcx hown5 hfr5 hnw5 hb5))
                    have HO6 : Hid (Own (w5.setCell ⟨g, k, none⟩ (.int .i64 (r : Nat))) w.heap.size 3 .i64 (.slice (some ⟨g, 0, none⟩) (k + 1) cap) ((List.range (k + 1)).map (tmF x y (k + 1)))) := Lib.hid (by
                      rw [← tmF_step, ← HT1.out]; exact HO5.out.set_ k r)
                    have hb6 := hbw5.setCell (p := ⟨g, k, none⟩) hgB (.int .i64 (r : Nat))
                    go_roundw
                    case rel => exact ⟨k + 1, e, k + 1, cap, _, by go_num, rfl, rfl, Nat.le_refl _, hk2, HHH, HNY2, HT2, HO6, hb6⟩
                    case measure => simp [intOf]; omega
            · obtain rfl : i = s.size := by omega
              have hlx : Hid ((dl 256 x h).length ≤ 1000000000) := Lib.hid (by rw [dl_length]; omega)
              have HOF : Hid (of 256 (dl 256 x h) = x) := Lib.hid (by
                rw [of_dl, ← hnx.out]; exact Nat.mod_eq_of_lt (lt_nd (by omega)))
              have KE := Lib.hid (fun w => rEnded_c x w (by rw [hnx.out]; omega))
              have HXX := hx
              clear hx
              go_wp2_with fail
              refine (rMade_c _ _ _ _ (dl_lt256 x h) hlx.out hown.out).mono ?_
              rintro e w' ⟨rfl, hb2⟩
              rw [HOF.out]
              go_wp2_with fail
              refine (KE.out _).mono ?_
              rintro e w3 ⟨rfl, rfl⟩
              go_wp2_with fail
              go_ret2
              exact ⟨by rw [← HXX.out]; rfl, below_chain hb hb2⟩
end Go.Proofs.Ytjcicbnjoffbhaa
