/- Contracts of the document: two, Shift. -/
import Derived.Test.YtjcicbnjoffbhaaN46
set_option linter.unusedSimpArgs false
set_option linter.unusedVariables false
namespace Go.Proofs.Ytjcicbnjoffbhaa
open Go Go.RowKit Nt

theorem two_cells_set (q v : Nat) : (fcells .i64 (fun _ => 0) (q + 1)).setIfInBounds q (.int .i64 (v : Nat)) = fcells .i64 (fun j => if j = q then v else 0) (q + 1) := by
  rw [fcells_set]
theorem made_fc (k : IntKind) (L : Nat) : madeCells (Value.cells (.int k 0)) (L * 1) = fcells k (fun _ => 0) L := by rw [Nat.mul_one]; exact fcells_made _ _
set_option maxRecDepth 100000 in
theorem rTwo_c (n : Nat) (w : World) (hn : n ≤ 1000000) :
    Calls Try.prog 82 #[.int .i64 (n : Nat)] w fun e w' => e = .returned (.string (natS (2 ^ n))) ∧ Below w.heap.size w w' := by
  obtain ⟨i0, hi0, hz0, hj1, hj2⟩ := info_parts (P := Try.prog) (e := 3) (z := .int .i64 0) (size := 1) (bytes := 8) (by kernel_rfl)
  obtain ⟨q, hq⟩ : ∃ q, q = n / 8 := ⟨_, rfl⟩
  obtain ⟨r, hr⟩ : ∃ r, r = n % 8 := ⟨_, rfl⟩
  have hof := two_of n
  rw [← hq, ← hr] at hof
  have hqI : (n : Int).tdiv 8 = (q : Int) := by rw [Int.tdiv_eq_ediv_of_nonneg (by omega)]; omega
  have hrI : (n : Int) % 8 = (r : Int) := by omega
  have hr8 : r < 8 := by omega
  have hq2 : q ≤ 125000 := by omega
  have hpow : 2 ^ r < 256 := by
    have := Nat.pow_lt_pow_right (show 1 < 2 by omega) hr8
    omega
  obtain ⟨p, hp⟩ : ∃ p, p = 2 ^ r := ⟨_, rfl⟩
  rw [← hp] at hof hpow
  have hpI : (2 : Int) ^ r = (p : Int) := by rw [hp]; exact (Int.natCast_pow 2 r).symm
  have HOF := Lib.hid hof
  have HPOW := Lib.hid hpow
  have HQ := Lib.hid hq
  have HS : ∀ w1 : World, Blk w1 w.heap.size 3 (fcells .i64 (fun _ => 0) (q + 1)) → w1.cell? ⟨w.heap.size, q, none⟩ = some (.int .i64 0) ∧ w1.frozen? ⟨w.heap.size, q, none⟩ = false := fun w1 h =>
    ⟨by rw [h.cell, fcells_get _ _ _ _ (by omega)]; rfl, h.frozen q⟩
  have HC := Lib.hid HS
  clear hof hq hr hp HS
  go_enter Try.func82, Try.ntmps82
  go_wp2_with (at_make; go_loud ((refine wpList_make_zero _ rfl _ _ _ rfl 3 i0 _ Try.underlying80 hi0 hz0 hj1 .i64 .i64 _ _ (q + 1) rfl rfl (by omega) (by omega) (by rw [hj2]; omega) (by unfold maxLen; omega) ?_); rw [made_fc]; have HB0 := Lib.hid (Blk.new w 3 (fcells .i64 (fun _ => 0) (q + 1))); have hbl : Below w.heap.size w (w.alloc (.cells (fcells .i64 (fun _ => 0) (q + 1)) 3)) := (Below.refl _ _).alloc (Nat.le_refl _) _; generalize w.alloc (.cells (fcells .i64 (fun _ => 0) (q + 1)) 3) = w3 at *; obtain ⟨hcz, hfz⟩ := HC.out w3 HB0.out))
  all_goals
    have HB1 := HB0.out.set_ q (.int .i64 ((p : Nat) : Int))
    rw [two_cells_set] at HB1
    have HO : Hid (Own (w3.setCell ⟨w.heap.size, q, none⟩ (.int .i64 ((p : Nat) : Int))) w.heap.size 3 .i64 (.slice (some ⟨w.heap.size, 0, none⟩) (q + 1) (q + 1)) ((List.range (q + 1)).map fun j => if j = q then p else 0)) := Lib.hid (Own.of_fcells HB1 (Nat.le_refl _) (by omega))
    have HLL : Hid (((List.range (q + 1)).map fun j => if j = q then p else 0).length ≤ 1000000000) := Lib.hid (by rw [List.length_map, List.length_range]; omega)
    have HLT : Hid (∀ x ∈ (List.range (q + 1)).map fun j => if j = q then p else 0, x < 256) := Lib.hid (fun x hx => by
      obtain ⟨j, _, rfl⟩ := List.mem_map.1 hx
      have := HPOW.out
      split <;> omega)
    have hb1 := hbl.setCell (p := ⟨w.heap.size, q, none⟩) (Nat.le_refl _) (.int .i64 ((p : Nat) : Int))
    have KM := rMade_c _ _ _ _ HLT.out (by have := HLL.out; rw [List.length_map, List.length_range] at *; omega) HO.out
    rw [HOF.out] at KM
    refine KM.mono ?_
    rintro e w' ⟨rfl, hb'⟩
    go_wp2_with fail
    go_ret
    exact ⟨rfl, below_chain hb1 hb'⟩
theorem shr_dgt (a s b j : Nat) (hb : b ≤ 8) : dgt 256 (a / 2 ^ (8 * s + b)) j = (dgt 256 a (s + j) + 256 * dgt 256 a (s + j + 1)) / 2 ^ b % 256 := by
  have e1 : a / 2 ^ (8 * s + b) / 256 ^ j = a / 256 ^ (s + j) / 2 ^ b := by
    rw [Nat.div_div_eq_div_mul, Nat.div_div_eq_div_mul]
    congr 1
    rw [show (256 : Nat) = 2 ^ 8 by rfl, ← Nat.pow_mul, ← Nat.pow_mul, ← Nat.pow_add, ← Nat.pow_add]
    congr 1; omega
  rw [dgt_def 256 (a / 2 ^ (8 * s + b)), e1]
  obtain ⟨C, hC⟩ : ∃ C, C = a / 256 ^ (s + j + 1 + 1) := ⟨_, rfl⟩
  have h1 := div_eq_dgt (b := 256) (by omega) a (s + j)
  have h2 := div_eq_dgt (b := 256) (by omega) a (s + j + 1)
  rw [h2, ← hC] at h1
  have h3 : a / 256 ^ (s + j) = (dgt 256 a (s + j) + 256 * dgt 256 a (s + j + 1)) + 2 ^ b * (256 * (2 ^ (8 - b) * C)) := by
    rw [h1]
    have : 2 ^ b * (256 * (2 ^ (8 - b) * C)) = 65536 * C := by
      rw [Nat.mul_left_comm, ← Nat.mul_assoc (2 ^ b), ← Nat.pow_add, show b + (8 - b) = 8 by omega]; omega
    omega
  rw [h3, Nat.add_mul_div_left _ _ (Nat.two_pow_pos b), Nat.add_mul_mod_self_left]
theorem shr_end (a s b k : Nat) (h : nd 256 a ≤ s + k) : of 256 (dl 256 (a / 2 ^ (8 * s + b)) k) = a / 2 ^ (8 * s + b) := by
  rw [of_dl]
  refine Nat.mod_eq_of_lt ?_
  rw [Nat.div_lt_iff_lt_mul (Nat.two_pow_pos _)]
  have h1 := (lt_pow_iff (b := 256) (by omega) _ _).2 h
  refine Nat.lt_of_lt_of_le h1 ?_
  rw [Nat.pow_add, Nat.mul_comm, Nat.pow_add]
  refine Nat.mul_le_mul_left _ ?_
  rw [show (256 : Nat) = 2 ^ 8 by rfl, ← Nat.pow_mul]
  exact Nat.le_mul_of_pos_right _ (Nat.two_pow_pos _)
theorem two_nd (n : Nat) : nd 256 (2 ^ n) ≤ n / 8 + 1 := by
  refine nd_le (by omega) ?_
  rw [show (256 : Nat) = 2 ^ 8 by rfl, ← Nat.pow_mul]
  exact Nat.pow_lt_pow_right (by omega) (by omega)
theorem nd_two_big {a n : Nat} (e : Nat) (h : 8 * e ≤ n) (ha : a ≠ 0) : e < nd 256 (a * 2 ^ n) := by
  refine (pow_le_iff (b := 256) (by omega) e _).1 ?_
  have h4 : 2 ^ n ≤ a * 2 ^ n := Nat.le_mul_of_pos_left _ (by omega)
  refine Nat.le_trans ?_ h4
  rw [show (256 : Nat) = 2 ^ 8 by rfl, ← Nat.pow_mul]
  exact Nat.pow_le_pow_right (by omega) h
set_option maxRecDepth 100000 in
theorem rShift_same (a : Nat) (n : Int) (w : World) (h : a = 0 ∨ n = 0) :
    Calls Try.prog 46 #[.string (natS a), .int .i64 n] w (StrPost (natS a) 0 w) := by
  by_cases h0 : a = 0
  · subst h0
    have hE := natS_empty (n := 0) rfl
    clear h
    go_enter Try.func46, Try.ntmps46
    go_wp2_with fail
    go_ret2
    exact ⟨rfl, Below.refl _ _⟩
  · obtain rfl : n = 0 := by rcases h with h | h; exact absurd h h0; exact h
    have hE := natS_full h0
    have hE2 := natS_full2 h0
    clear h h0
    go_enter Try.func46, Try.ntmps46
    go_wp2_with fail
    go_ret2
    exact ⟨rfl, Below.refl _ _⟩
set_option maxRecDepth 100000 in
theorem rShift_far (a : Nat) (n : Int) (w : World) (h0 : a ≠ 0) (h : n < -131072) :
    Calls Try.prog 46 #[.string (natS a), .int .i64 n] w (StrPost ⟨#[]⟩ 0 w) := by
  have hE := natS_full h0
  have hE2 := natS_full2 h0
  have h1 : ¬ n = 0 := by omega
  have h2 : (n == 0) = false := by rw [beq_eq_false_iff_ne]; exact h1
  have h3 : ¬ 0 < n := by omega
  clear h0
  go_enter Try.func46, Try.ntmps46
  go_wp2_with fail
  go_ret2
  exact ⟨rfl, Below.refl _ _⟩
set_option maxRecDepth 100000 in
theorem rShift_up (a n : Nat) (w : World) (h0 : a ≠ 0) (hn : n ≠ 0) (hf : fits a) :
    Calls Try.prog 46 #[.string (natS a), .int .i64 (n : Nat)] w (StrPost (resS (a * 2 ^ n)) (resE (a * 2 ^ n)) w) := by
  have hE := natS_full h0
  have hE2 := natS_full2 h0
  have h1 : ¬ (n : Int) = 0 := by omega
  have h2 : ((n : Int) == 0) = false := by rw [beq_eq_false_iff_ne]; exact h1
  have h3 : (0 : Int) < (n : Int) := by omega
  by_cases hl : 131072 < n
  · have hno : ¬ fits (a * 2 ^ n) := fun c => by
      have h6 := nd_two_big (a := a) (n := n) 16384 (by omega) h0
      unfold fits at c; omega
    have HE := Lib.hid (resE_no hno)
    have HS := Lib.hid (resS_no hno)
    have hl' : (131072 : Int) < (n : Int) := by omega
    clear hno h0 hn hf
    go_enter Try.func46, Try.ntmps46
    go_wp2_with fail
    go_ret2
    exact ⟨by rw [HE.out, HS.out]; rfl, Below.refl _ _⟩
  · have KT := Lib.hid (fun w => rTwo_c n w (by omega))
    have KM := Lib.hid (fun w => rMul_c a (2 ^ n) w (by unfold fits at hf; omega) (by have := two_nd n; omega) (fun _ => ⟨h0, by have := Nat.two_pow_pos n; omega⟩))
    have hl' : ¬ (131072 : Int) < (n : Int) := by omega
    clear h0 hn hf
    go_enter Try.func46, Try.ntmps46
    go_wp2_with fail
    refine (KT.out _).mono ?_
    rintro e w1 ⟨rfl, hb1⟩
    go_wp2_with fail
    refine (KM.out _).mono ?_
    rintro e w2 ⟨rfl, hb2⟩
    go_wp2_with fail
    go_ret2
    exact ⟨rfl, below_chain hb1 hb2⟩
set_option maxRecDepth 100000 in
set_option maxHeartbeats 1000000 in
theorem rShift_down (a m : Nat) (w : World) (h0 : a ≠ 0) (hm0 : m ≠ 0) (hm1 : m ≤ 131072) (hf : fits a) :
    Calls Try.prog 46 #[.string (natS a), .int .i64 (-(m : Int))] w (StrPost (natS (a / 2 ^ m)) 0 w) := by
  obtain ⟨i0, hi0, hz0, hj1, hj2⟩ := info_parts (P := Try.prog) (e := 3) (z := .int .i64 0) (size := 1) (bytes := 8) (by kernel_rfl)
  have hE := natS_full h0
  have hE2 := natS_full2 h0
  have h1 : ¬ (-(m : Int)) = 0 := by omega
  have h2 : ((-(m : Int)) == 0) = false := by rw [beq_eq_false_iff_ne]; exact h1
  have h3 : ¬ (0 : Int) < -(m : Int) := by omega
  have h4 : ¬ (-(m : Int)) < -131072 := by omega
  have hN : nd 256 a ≤ 16384 := hf
  obtain ⟨s, hs⟩ : ∃ s, s = m / 8 := ⟨_, rfl⟩
  obtain ⟨b, hb⟩ : ∃ b, b = m % 8 := ⟨_, rfl⟩
  have hsb : m = 8 * s + b := by omega
  have hb8 : b < 8 := by omega
  have hs16 : s ≤ 16384 := by omega
  have KX := Lib.hid (fun w => rDigits_c a w (by omega))
  obtain ⟨N, hNN⟩ : ∃ N, N = nd 256 a := ⟨_, rfl⟩
  rw [← hNN] at KX hN
  have HN := Lib.hid hNN
  have hneg : wrap64 (-(-(m : Int))) = (m : Int) := by rw [IntWalk.wrap64_in _ (by omega)]; omega
  have hneg2 : wrap64 (m : Int) = (m : Int) := IntWalk.wrap64_in _ (by omega)
  have hsI : (m : Int).tdiv 8 = (s : Int) := by rw [Int.tdiv_eq_ediv_of_nonneg (by omega)]; omega
  have hbI : (m : Int) % 8 = (b : Int) := by omega
  have HSB := Lib.hid hsb
  clear h0 hm0 hf hNN hs hb hsb
  go_enter Try.func46, Try.ntmps46
  go_wp2_with fail
  refine (KX.out _).mono ?_
  rintro e w1 ⟨v1, rfl, ho1, hb1⟩
  obtain ⟨A1, c1, rfl, hc1⟩ := ho1.len
  rw [dl_length] at ho1 hc1 ⊢
  have HO1 := Lib.hid ho1
  clear ho1 hc1
  go_wp2_with fail
  go_loopw [7, 8] (fun v i wr => ∃ (k p : Nat), i = .int .i64 p ∧ Hid (p = s + k) ∧ p ≤ 40000 ∧ Hid (s + k ≤ N ∨ k = 0) ∧ Hid (Own wr w1.heap.size 3 .i64 v (dl 256 (a / 2 ^ m) k)) ∧ Below w1.heap.size w1 wr) (fun _ i _ => N - (intOf i).toNat)
  case atStart => exact ⟨0, s, rfl, Lib.hid rfl, by omega, Lib.hid (Or.inr rfl), Lib.hid (Own.nil _ _ _ _), Below.refl _ _⟩
  case round =>
    obtain ⟨k, p, rfl, hp, hp4, hk, hown, hb⟩ := hrel
    by_cases hlt : p < N
    · obtain ⟨g, cap, e1, _, hg, hcell, hfz⟩ := (HO1.out.whole hb).cell (j := p) (by rw [dl_length]; exact hlt)
      injection e1 with e1 e2 e3
      subst e1
      rw [dl_get] at hcell
      obtain ⟨p1, hp1⟩ : ∃ p1, p1 = p + 1 := ⟨_, rfl⟩
      have hp1I : (p : Int) + 1 = (p1 : Int) := by omega
      have K2 := fun m => rAt_c a N p1 _ (some ⟨g, 0, none⟩) c1 (wr.drewN m) (by have := HN.out; omega) (by omega) (by omega) ((HO1.out.whole hb).drewN m)
      have hx0 := dgt_lt (b := 256) (by omega) a p
      have hx1 := dgt_lt (b := 256) (by omega) a p1
      obtain ⟨D, hD⟩ : ∃ D, D = dgt 256 a p + 256 * dgt 256 a p1 := ⟨_, rfl⟩
      have hst := shr_dgt a s b k (by omega)
      rw [← HSB.out, ← hp.out, ← hp1, ← hD] at hst
      generalize dgt 256 a p = x0 at *
      generalize dgt 256 a p1 = x1 at *
      have hDI : (x0 : Int) + 256 * (x1 : Int) = (D : Int) := by omega
      have hD6 : D ≤ 65535 := by omega
      have hw1 : IntKind.i64.wrap ((p : Int) + 1) = (p1 : Int) := by rw [IntWalk.i64_in _ (by omega)]; omega
      have hw2 : IntKind.i64.wrap (256 * (x1 : Int)) = 256 * (x1 : Int) := IntWalk.i64_in _ (by omega)
      have hw3 : IntKind.i64.wrap ((x0 : Int) + 256 * (x1 : Int)) = (D : Int) := by rw [IntWalk.i64_in _ (by omega)]; omega
      obtain ⟨E, hE'⟩ : ∃ E, E = D / 2 ^ b := ⟨_, rfl⟩
      obtain ⟨d, hd⟩ : ∃ d, d = E % 256 := ⟨_, rfl⟩
      have hEI : (D : Int) / 2 ^ b = (E : Int) := by
        rw [hE', Int.natCast_ediv, Int.natCast_pow]; rfl
      have hdI : (E : Int) % 256 = (d : Int) := by omega
      have hdT : (E : Int).tmod 256 = (d : Int) := by rw [Int.tmod_eq_emod_of_nonneg (by omega)]; omega
      have hd256 : d < 256 := by omega
      rw [← hE', ← hd] at hst
      have H2 := Lib.hid K2
      have HST := Lib.hid hst
      have HP1 := Lib.hid hp1
      have HLT := Lib.hid hlt
      have hlen : Hid ((dl 256 (a / 2 ^ m) k).length + 1 ≤ 17592186044416) := Lib.hid (by rw [dl_length]; have := hp.out; omega)
      clear K2 hst hp1 hD e2 e3 hfz hE' hd
      go_wp2_with fail
      go_quiet ((go_at_call 74; exact Calls.quiet_of_same ((H2.out _).mono fun _ _ h => ⟨h.1, h.2.symm⟩)))
      rename_i nq
      have hbq := below_drewN hb nq
      have hownq := Lib.hid (hown.out.drewN nq)
      generalize wr.drewN nq = wq at *
      go_wp2_with (at_builtin; go_loud (refine wpList_app1 wq rfl (.tmp 50) (.tmp 57) _ rfl w1.heap.size 3 3 i0 .i64 8 Try.underlying80 hi0 hz0 hj1 hj2 (by omega) _ (dl 256 (a / 2 ^ m) k) d rfl rfl hownq.out hlen.out hbq.size ?_); intro v5 w5 hown5 hb5 hfr5 hnw5)
      rw [← HST.out, ← dl_succ] at hown5
      have HO5 := Lib.hid hown5
      clear hown5 hfr5 hnw5
      go_roundw
      case rel => exact ⟨k + 1, p1, by go_num, Lib.hid (by have := hp.out; have := HP1.out; omega), by have := HP1.out; omega, Lib.hid (Or.inl (by have := hp.out; have := HLT.out; omega)), HO5, hbq.trans hb5⟩
      case measure =>
        have := HLT.out
        have := HP1.out
        clear hw1 hw2 hw3 hdT hdI hEI hDI
        simp [intOf]; omega
    · have HE := Lib.hid (shr_end a s b k (by have := HN.out; have := hp.out; have := hk.out; omega))
      rw [← HSB.out] at HE
      have HL : Hid ((dl 256 (a / 2 ^ m) k).length ≤ 1000000000) := Lib.hid (by rw [dl_length]; have := hp.out; omega)
      go_wp2_with fail
      refine (rMade_c _ _ _ _ (dl_lt256 (a / 2 ^ m) k) HL.out hown.out).mono ?_
      rintro e w' ⟨rfl, hb'⟩
      go_wp2_with fail
      go_ret2
      exact ⟨by rw [HE.out]; rfl, below_chain hb1 (below_chain hb hb')⟩
theorem rShift_neg (a m : Nat) (w : World) (hf : fits a) :
    Calls Try.prog 46 #[.string (natS a), .int .i64 (-(m : Int))] w (StrPost (natS (a / 2 ^ m)) 0 w) := by
  by_cases h : a = 0 ∨ m = 0
  · have e : a / 2 ^ m = a := by
      rcases h with rfl | rfl
      · exact Nat.zero_div _
      · rw [Nat.pow_zero, Nat.div_one]
    rw [e]
    exact rShift_same a _ w (by omega)
  · by_cases hm : m ≤ 131072
    · exact rShift_down a m w (by omega) (by omega) hm hf
    · have e : a / 2 ^ m = 0 := by
        refine Nat.div_eq_of_lt ((lt_pow_iff (b := 2) (by omega) m a).2 ?_)
        have := bits_131072 hf
        omega
      rw [e, natS_zero]
      exact rShift_far a _ w (by omega) (by omega)
end Go.Proofs.Ytjcicbnjoffbhaa
