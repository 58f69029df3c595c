/- Contract of the document: Div. -/
import Derived.Test.YtjcicbnjoffbhaaN48
import Derived.Test.YtjcicbnjoffbhaaN60
set_option linter.unusedSimpArgs false
set_option linter.unusedVariables false
namespace Go.Proofs.Ytjcicbnjoffbhaa
open Go Go.RowKit Nt

/-- The number of the i highest of N digits. -/
def pre (a N i : Nat) : Nat := a / 256 ^ (N - i)
theorem pre_all (a N : Nat) : pre a N N = a := by unfold pre; rw [Nat.sub_self, Nat.pow_zero, Nat.div_one]
theorem pre_succ {a N i j : Nat} (h : N = i + 1 + j) : pre a N (i + 1) = 256 * pre a N i + dgt 256 a j := by
  unfold pre
  rw [show N - (i + 1) = j by omega, show N - i = j + 1 by omega, div_eq_dgt (b := 256) (by omega) a j]
  omega
theorem pre_nd {a N i : Nat} (hN : nd 256 a = N) (hi : i ≤ N) : nd 256 (pre a N i) ≤ i := by
  unfold pre
  refine nd_le (by omega) ?_
  rw [Nat.div_lt_iff_lt_mul (Nat.pow_pos (by omega)), ← Nat.pow_add, show i + (N - i) = N by omega, ← hN]
  exact lt_nd (by omega)
theorem pre_dgt {a N i j : Nat} (h : N = i + 1 + j) (b : Nat) : dgt 256 (a / b) j = pre a N (i + 1) / b % 256 := by
  unfold pre
  rw [show N - (i + 1) = j by omega, dgt_def, Nat.div_div_eq_div_mul, Nat.div_div_eq_div_mul, Nat.mul_comm]
/-- One step of the division, digit by digit. -/
theorem pre_step {a N i j b : Nat} (h : N = i + 1 + j) (hb : 0 < b) : (256 * (pre a N i % b) + dgt 256 a j) / b = dgt 256 (a / b) j ∧ (256 * (pre a N i % b) + dgt 256 a j) % b = pre a N (i + 1) % b ∧ dgt 256 (a / b) j < 256 := by
  have hd := dgt_lt (b := 256) (by omega) a j
  have h1 := Nat.mod_add_div (pre a N i) b
  have h2 := Nat.mod_lt (pre a N i) hb
  have e : pre a N (i + 1) = (256 * (pre a N i % b) + dgt 256 a j) + b * (256 * (pre a N i / b)) := by
    rw [pre_succ h]
    have : 256 * pre a N i = 256 * (pre a N i % b) + b * (256 * (pre a N i / b)) := by
      rw [Nat.mul_left_comm b, ← Nat.mul_add, h1]
    omega
  have h3 : (256 * (pre a N i % b) + dgt 256 a j) / b < 256 := by
    rw [Nat.div_lt_iff_lt_mul hb]
    have : 256 * (pre a N i % b + 1) ≤ 256 * b := Nat.mul_le_mul_left _ h2
    omega
  have h4 : pre a N (i + 1) / b = (256 * (pre a N i % b) + dgt 256 a j) / b + 256 * (pre a N i / b) := by
    rw [e, Nat.add_mul_div_left _ _ hb]
  have h5 : dgt 256 (a / b) j = (256 * (pre a N i % b) + dgt 256 a j) / b := by
    rw [pre_dgt h, h4, Nat.add_mul_mod_self_left, Nat.mod_eq_of_lt h3]
  refine ⟨h5.symm, ?_, by rw [h5]; exact h3⟩
  rw [e, Nat.add_mul_mod_self_left]
/-- Above the digits that are done the quotient's are 0. -/
theorem pre_zero {a N i b j : Nat} (h : pre a N i < b) (hi : i ≤ N) (hj : N - i ≤ j) : dgt 256 (a / b) j = 0 := by
  have h1 : a / b / 256 ^ (N - i) = 0 := by
    rw [Nat.div_div_eq_div_mul, Nat.mul_comm, ← Nat.div_div_eq_div_mul]
    exact Nat.div_eq_of_lt h
  obtain ⟨x, rfl⟩ : ∃ x, j = N - i + x := ⟨j - (N - i), by omega⟩
  rw [dgt_def, Nat.pow_add, ← Nat.div_div_eq_div_mul, h1, Nat.zero_div]
theorem pre_nd_eq {a N i : Nat} (hN : nd 256 a = N) (hi : i ≤ N) : nd 256 (pre a N i) = i := by
  refine Nat.le_antisymm (pre_nd hN hi) ?_
  rcases Nat.eq_zero_or_pos i with h | h
  · omega
  · have h1 : 256 ^ (N - 1) ≤ a := (pow_le_iff (b := 256) (by omega) _ _).2 (by omega)
    have h2 : 256 ^ (i - 1) ≤ pre a N i := by
      unfold pre
      rw [Nat.le_div_iff_mul_le (Nat.pow_pos (by omega)), ← Nat.pow_add, show i - 1 + (N - i) = N - 1 by omega]
      exact h1
    have := (pow_le_iff (b := 256) (by omega) _ _).1 h2
    omega
/-- The i highest bytes as a text. -/
theorem natS_take {a N i : Nat} (hN : nd 256 a = N) (hi : i ≤ N) : (natS a).extract 0 i = natS (pre a N i) := by
  have hs := natS_size a
  have hp := natS_size (pre a N i)
  rw [pre_nd_eq hN hi] at hp
  rw [hN] at hs
  have hs2 : ((natS a).extract 0 i).size = i := by
    rw [ByteArray.size_extract, hs]; omega
  apply ByteArray.ext_getElem (by rw [hs2, hp])
  intro j h1 h2
  have hj : j < i := by rw [hs2] at h1; exact h1
  rw [ByteArray.getElem_extract]
  have e1 := natS_get a j (by rw [hs]; omega)
  have e2 := natS_get (pre a N i) j h2
  rw [hN] at e1
  rw [pre_nd_eq hN hi] at e2
  have e3 : dgt 256 (pre a N i) (i - 1 - j) = dgt 256 a (N - 1 - j) := by
    unfold pre
    rw [dgt_def, dgt_def, Nat.div_div_eq_div_mul, ← Nat.pow_add, show N - i + (i - 1 - j) = N - 1 - j by omega]
  apply UInt8.toNat_inj.1
  rw [e2, e3, ← e1]
  congr 2
  omega
set_option maxRecDepth 100000 in
theorem rMade1_c (x : Nat) (w : World) (hx : x < 256) :
    Calls Try.prog 61 #[.slice (some ⟨w.heap.size, 0, none⟩) 1 1] (w.alloc (.cells #[.int .i64 (x : Nat)] 3)) fun e w' => e = .returned (.string (natS x)) ∧ Below w.heap.size w w' := by
  have hb : Below w.heap.size w (w.alloc (.cells #[.int .i64 (x : Nat)] 3)) := (Below.refl _ _).alloc (Nat.le_refl _) _
  have hblk : Blk (w.alloc (.cells #[.int .i64 (x : Nat)] 3)) w.heap.size 3 (fcells .i64 (fun _ => x) 1) := Blk.new w 3 _
  have hown := Own.of_fcells hblk (Nat.le_refl _) (by omega)
  have h := rMade_c w.heap.size (.slice (some ⟨w.heap.size, 0, none⟩) 1 1) [x] _ (by simpa using hx) (by simp) hown
  have e : of 256 [x] = x := by rw [of_cons, of_nil]; omega
  rw [e] at h
  refine h.mono ?_
  rintro e w' ⟨rfl, hb'⟩
  exact ⟨rfl, below_chain hb hb'⟩
theorem rMade1_b (x : Nat) (w : World) (hx : x < 256) :
    Calls Try.prog 61 #[.slice (some ⟨w.heap.size, 0, none⟩) 1 1] (w.alloc (.cells #[.int .i64 (x : Nat)] 3)) fun e w' => e = .returned (.string (natS x)) ∧ Below (w.alloc (.cells #[.int .i64 (x : Nat)] 3)).heap.size (w.alloc (.cells #[.int .i64 (x : Nat)] 3)) w' := by
  have hblk : Blk (w.alloc (.cells #[.int .i64 (x : Nat)] 3)) w.heap.size 3 (fcells .i64 (fun _ => x) 1) := Blk.new w 3 _
  have hown := Own.of_fcells hblk (Nat.le_refl _) (by omega)
  have h := rMade_c w.heap.size (.slice (some ⟨w.heap.size, 0, none⟩) 1 1) [x] _ (by simpa using hx) (by simp) hown
  have e : of 256 [x] = x := by rw [of_cons, of_nil]; omega
  rw [e] at h
  exact h
theorem rMade1_t (x : Nat) (w wT : World) (hx : x < 256) (hb : Below (w.alloc (.cells #[.int .i64 (x : Nat)] 3)).heap.size (w.alloc (.cells #[.int .i64 (x : Nat)] 3)) wT) :
    Calls Try.prog 61 #[.slice (some ⟨w.heap.size, 0, none⟩) 1 1] wT fun e w' => e = .returned (.string (natS x)) ∧ Below wT.heap.size wT w' := by
  have hblk : Blk (w.alloc (.cells #[.int .i64 (x : Nat)] 3)) w.heap.size 3 (fcells .i64 (fun _ => x) 1) := Blk.new w 3 _
  have hown := Own.of_fcells (hblk.below hb hblk.lt) (Nat.le_refl _) (by omega)
  have h := rMade_c w.heap.size (.slice (some ⟨w.heap.size, 0, none⟩) 1 1) [x] _ (by simpa using hx) (by simp) hown
  have e : of 256 [x] = x := by rw [of_cons, of_nil]; omega
  rw [e] at h
  exact h
end Go.Proofs.Ytjcicbnjoffbhaa
set_option linter.unusedSimpArgs false
set_option linter.unusedVariables false
namespace Go.Proofs.Ytjcicbnjoffbhaa
open Go Go.RowKit Nt

theorem natS_256 : natS 256 = ⟨#[1, 0]⟩ := by
  have h1 : nd 256 256 = 2 := by rw [nd_step (by omega) (by omega), show 256 / 256 = 1 by rfl, nd_step (by omega) (by omega), show 1 / 256 = 0 by rfl, nd_zero]
  rw [natS_def, h1]
  have : dl 256 256 2 = [0, 1] := by
    rw [dl_succ, dl_succ, dgt_def, dgt_def]
    simp [dl]
  rw [this]; rfl
/-- The quotient's digits that are done. -/
def quoF (Z N i j : Nat) : Nat := if N - i ≤ j then dgt 256 Z j else 0
theorem quoF_step {Z N i x j : Nat} (h : N = i + 1 + x) (hj : j < N) : (if j = x then dgt 256 Z x else quoF Z N i j) = quoF Z N (i + 1) j := by
  unfold quoF
  by_cases h1 : j = x
  · rw [if_pos h1, if_pos (by omega), h1]
  · rw [if_neg h1]
    by_cases h2 : N - i ≤ j
    · rw [if_pos h2, if_pos (by omega)]
    · rw [if_neg h2, if_neg (by omega)]
theorem SB_alloc {w w' : World} (h : SB w w') (o : Obj) : SB w (w'.alloc o) := Below.alloc h h.size o
theorem rDiv_zero (a : Nat) (w : World) :
    Calls Try.prog 44 #[.string (natS a), .string ⟨#[]⟩] w (Str2Post ⟨#[]⟩ ⟨#[]⟩ 21 w) := by
  go_enter Try.func44, Try.ntmps44
  go_wp2_with fail
  go_ret3
  exact ⟨rfl, Below.refl _ _⟩
/-- The search for a digit. -/
theorem search_mid {b R q lo hi mid : Nat} (hb : 0 < b) (hq : q = R / b) (h1 : lo ≤ q) (h2 : q ≤ hi) (hlt : lo < hi) (hm : mid = (lo + hi + 1) / 2) :
    lo < mid ∧ mid ≤ hi ∧ (b * mid ≤ R → mid ≤ q) ∧ (¬ b * mid ≤ R → q ≤ mid - 1) := by
  refine ⟨by omega, by omega, fun h => ?_, fun h => ?_⟩
  · rw [hq, Nat.le_div_iff_mul_le hb, Nat.mul_comm]; exact h
  · have : q < mid := by
      rw [hq, Nat.div_lt_iff_lt_mul hb, Nat.mul_comm]; omega
    omega
theorem rMade1_all (x : Nat) (hx : x < 256) : ∀ w wT : World, Below (w.alloc (.cells #[.int .i64 (x : Nat)] 3)).heap.size (w.alloc (.cells #[.int .i64 (x : Nat)] 3)) wT →
    Calls Try.prog 61 #[.slice (some ⟨w.heap.size, 0, none⟩) 1 1] wT fun e w' => e = .returned (.string (natS x)) ∧ Below wT.heap.size wT w' := fun w wT h => rMade1_t x w wT hx h
theorem rMade1_drew (x : Nat) (hx : x < 256) : ∀ w wT : World, Below (w.alloc (.cells #[.int .i64 (x : Nat)] 3)).drew.heap.size (w.alloc (.cells #[.int .i64 (x : Nat)] 3)).drew wT →
    Calls Try.prog 61 #[.slice (some ⟨w.heap.size, 0, none⟩) 1 1] wT fun e w' => e = .returned (.string (natS x)) ∧ Below wT.heap.size wT w' := fun w wT h => rMade1_t x w wT hx ⟨h.os, h.tape, h.output, h.size, h.block⟩
theorem rMade1_drewN (x : Nat) (hx : x < 256) : ∀ (w wT : World) (n : Nat), Below ((w.alloc (.cells #[.int .i64 (x : Nat)] 3)).drewN n).heap.size ((w.alloc (.cells #[.int .i64 (x : Nat)] 3)).drewN n) wT →
    Calls Try.prog 61 #[.slice (some ⟨w.heap.size, 0, none⟩) 1 1] wT fun e w' => e = .returned (.string (natS x)) ∧ Below wT.heap.size wT w' := fun w wT n h => rMade1_t x w wT hx ⟨h.os, h.tape, h.output, h.size, h.block⟩
set_option maxRecDepth 100000 in
set_option maxHeartbeats 4000000 in
theorem rDiv_at (a b N n0 : Nat) (w : World) (hb : b ≠ 0) (hN : nd 256 a = N) (hn : n0 ≤ N) (hN2 : N ≤ 5000) (hB2 : nd 256 b ≤ 5000) (hn2 : (n0 = nd 256 b - 1 ∧ ¬ N < nd 256 b - 1) ∨ (n0 = N ∧ N < nd 256 b - 1)) :
    Calls Try.prog 44 #[.string (natS a), .string (natS b)] w (Str2Post (natS (a / b)) (natS (a % b)) 0 w) := by
  obtain ⟨i0, hi0, hz0, hj1, hj2⟩ := info_parts (P := Try.prog) (e := 3) (z := .int .i64 0) (size := 1) (bytes := 8) (by kernel_rfl)
  have hE := natS_full hb
  have hE2 := natS_full2 hb
  have hsa := natS_size a
  have hsb := natS_size b
  have hex := natS_take hN hn
  have hpn := pre_nd_eq hN hn
  have hbn : nd 256 b ≠ 0 := fun e => hb ((nd_eq_zero (by omega)).1 e)
  have hpb : pre a N n0 < b := by
    refine lt_of_nd (b := 256) (by omega) ?_
    rw [hpn]; omega
  have hb0 : 0 < b := Nat.pos_of_ne_zero hb
  rw [hN] at hsa
  obtain ⟨Nb, hNb⟩ : ∃ Nb, Nb = nd 256 b := ⟨_, rfl⟩
  obtain ⟨m0, hm0⟩ : ∃ m0, Nb = m0 + 1 := ⟨Nb - 1, by omega⟩
  rw [← hNb] at hsb hn2 hB2
  have hmI : (Nb : Int) - 1 = (m0 : Int) := by omega
  have hn3 : (m0 = n0 ∧ ¬ N < m0) ∨ (N = n0 ∧ N < m0) := by
    rcases hn2 with ⟨h1, h2⟩ | ⟨h1, h2⟩
    · exact Or.inl ⟨by omega, by omega⟩
    · exact Or.inr ⟨h1.symm, by omega⟩
  have HPB := Lib.hid hpb
  have HB0 := Lib.hid hb0
  have HNE := Lib.hid hN
  have HNB := Lib.hid hNb
  have HEX := Lib.hid hex
  have HNN := Lib.hid hn
  have hN8 : N ≤ 5000 := hN2
  have hm8 : m0 ≤ 5000 := by omega
  clear hb hpn hbn hpb hb0 hN hNb hm0 hn2 hn hN2 hB2 hex
  rcases hn3 with ⟨rfl, hlt⟩ | ⟨rfl, hlt⟩
  all_goals
    have hex := HEX.out
    go_enter Try.func44, Try.ntmps44
    go_wp2_with (at_make; (refine wpList_make_zero _ rfl _ _ _ rfl 3 i0 _ Try.underlying80 hi0 hz0 hj1 .i64 .i64 _ _ N rfl rfl (by omega) (by omega) (by rw [hj2]; omega) (by unfold maxLen; omega) ?_); rw [made_fc]; have HQ0 := Lib.hid (Blk.new w 3 (fcells .i64 (fun _ => 0) N)); have hbl : Below w.heap.size w (w.alloc (.cells (fcells .i64 (fun _ => 0) N) 3)) := (Below.refl _ _).alloc (Nat.le_refl _) _; generalize w.alloc (.cells (fcells .i64 (fun _ => 0) N) 3) = w1 at *)
    obtain ⟨g, hg⟩ : ∃ g, g = w.heap.size := ⟨_, rfl⟩
    rw [← hg] at HQ0 hbl ⊢
    have HG := Lib.hid hg
    clear hg hex
    go_loopw [9, 10] (fun r ii wr => ∃ i : Nat, i ≤ N ∧ ii = .int .i64 i ∧ r = .string (natS (pre a N i % b)) ∧ Hid (Blk wr g 3 (fcells .i64 (quoF (a / b) N i) N)) ∧ Below g w wr) (fun _ ii _ => N - (intOf ii).toNat)
    case atStart => exact ⟨_, HNN.out, rfl, by rw [Nat.mod_eq_of_lt HPB.out], Lib.hid (by
      rw [fcells_congr (f' := fun _ => 0) (fun j hj => by
        unfold quoF
        split
        · exact pre_zero HPB.out HNN.out (by omega)
        · rfl)]
      exact HQ0.out), hbl⟩
    case round =>
      obtain ⟨i, hi, rfl, rfl, hblk, hbw⟩ := hrel
      by_cases hlt2 : i < N
      · obtain ⟨j, hj⟩ : ∃ j, N = i + 1 + j := ⟨N - i - 1, by omega⟩
        obtain ⟨hq, hr, hq256⟩ := pre_step (a := a) hj HB0.out
        have hRb := Nat.mod_lt (pre a N i) HB0.out
        obtain ⟨R, hR⟩ : ∃ R, R = pre a N i % b := ⟨_, rfl⟩
        rw [← hR] at hq hr hRb ⊢
        have his : i < (natS a).size := by omega
        have hgd := natS_get a i his
        rw [HNE.out, show N - 1 - i = j by omega] at hgd
        have hd := (natS a)[i].toNat_lt
        have hRn : nd 256 R ≤ Nb := by rw [HNB.out]; exact nd_mono (by omega) (Nat.le_of_lt hRb)
        have K1 := fun w => rTimes_c R 256 w (by omega) (by rw [nd_step (by omega) (by omega), show 256 / 256 = 1 by rfl, nd_step (by omega) (by omega), show 1 / 256 = 0 by rfl, nd_zero]; omega)
        rw [natS_256] at K1
        have hR2 : nd 256 (R * 256) ≤ Nb + 2 := by
          refine nd_le (by omega) ?_
          have h1 := (lt_pow_iff (b := 256) (by omega) _ _).2 hRn
          rw [Nat.pow_succ, Nat.pow_succ]; omega
        have K2 := fun w => rMade1_b (natS a)[i].toNat w hd
        have K3 := fun w => rPlus_c (R * 256) (natS a)[i].toNat w (by omega) (by
          have : nd 256 (natS a)[i].toNat ≤ 1 := nd_le (by omega) (by rw [Nat.pow_one]; exact hd)
          omega)
        have H1 := Lib.hid K1
        have H2 := Lib.hid K2
        have H2t := Lib.hid (rMade1_all (natS a)[i].toNat hd)
        have H3 := Lib.hid K3
        have HJ := Lib.hid hj
        have HQ := Lib.hid hq
        have HR := Lib.hid hr
        have HRB := Lib.hid hRb
        have HGD := Lib.hid hgd
        have HQ256 := Lib.hid hq256
        have HHR := Lib.hid hR
        have hwc : IntKind.i64.wrap (((natS a)[i].toNat : Nat) : Int) = (((natS a)[i].toNat : Nat) : Int) := IntWalk.i64_in _ (by omega)
        have L2 : SB wr wr.drew := (Below.refl _ _).drew
        clear K1 K2 K3 hq hr hRb hgd hRn hR2 hR hq256 hj
        go_wp2_with fail
        have H2d := Lib.hid (rMade1_drew (natS a)[i].toNat hd)
        have H2n := Lib.hid (rMade1_drewN (natS a)[i].toNat hd)
        go_upto_region 12 with fail
        go_cut [9] (fun r wc => r = .string (natS (R * 256 + (natS a)[i].toNat)) ∧ Below wr.heap.size wr wc)
        case first =>
          go_wp2_with fail
          go_region_with (first
            | (go_at_call 77; refine (H1.out _).mono ?_; rintro e wt ⟨rfl, hbt⟩)
            | (go_at_call 61; first | ((with_reducible refine (H2.out _).mono ?_); rintro e wm ⟨rfl, hbm⟩) | ((refine (H2n.out _ _ _ hbt).mono ?_); rintro e wm ⟨rfl, hbm⟩) | ((refine (H2d.out _ _ hbt).mono ?_); rintro e wm ⟨rfl, hbm⟩) | ((refine (H2t.out _ _ hbt).mono ?_); rintro e wm ⟨rfl, hbm⟩))
            | (go_at_call 72; refine (H3.out _).mono ?_; rintro e wp ⟨rfl, hbp⟩))
          all_goals
            go_wp2_with fail
            go_meet
            case rel => first
              | exact ⟨rfl, below_chain (below_chain (SB_alloc (below_chain L2 hbt) _) hbm) hbp⟩
              | exact ⟨rfl, below_chain (below_chain (below_chain (Below.drew (SB_alloc (Below.refl _ _) _)) hbt) hbm) hbp⟩
        case rest =>
          obtain ⟨rfl, hbc⟩ := hcut
          obtain ⟨T, hT⟩ : ∃ T, T = R * 256 + (natS a)[i].toNat := ⟨_, rfl⟩
          rw [← hT]
          have hd2 := hd
          have hqT : dgt 256 (a / b) j = T / b := by rw [hT, HGD.out, ← HQ.out]; congr 1; omega
          have hrT : pre a N (i + 1) % b = T % b := by rw [hT, HGD.out, ← HR.out]; congr 1; omega
          have hTb : T < b * 256 := by
            have h1 := HRB.out
            have h2 : R * 256 + 256 ≤ b * 256 := by rw [← Nat.succ_mul]; exact Nat.mul_le_mul_right _ h1
            omega
          obtain ⟨E, hE⟩ : ∃ E, E = 5001 := ⟨_, rfl⟩
          have hnb : nd 256 b ≤ E := by rw [← HNB.out]; omega
          have hTn : nd 256 T ≤ E + 1 := by
            refine nd_le (by omega) ?_
            have h1 := (lt_pow_iff (b := 256) (by omega) _ _).2 hnb
            rw [Nat.pow_succ]; omega
          have hfT : fits T := Nat.le_trans hTn (by omega)
          have hbm256 : ∀ m, m < 256 → nd 256 (b * m) ≤ E + 1 := by
            intro m hm
            refine nd_le (by omega) ?_
            have h1 := (lt_pow_iff (b := 256) (by omega) _ _).2 hnb
            have h2 : b * m ≤ b * 255 := Nat.mul_le_mul_left _ (by omega)
            rw [Nat.pow_succ]; omega
          have hm256 : ∀ m, m < 256 → nd 256 m ≤ 100000000 := fun m hm => by
            have : nd 256 m ≤ 1 := nd_le (by omega) (by rw [Nat.pow_one]; exact hm)
            omega
          obtain ⟨q, hq⟩ : ∃ q, q = T / b := ⟨_, rfl⟩
          have hq255 : q ≤ 255 := by
            have : q < 256 := by rw [hq, Nat.div_lt_iff_lt_mul HB0.out, Nat.mul_comm]; exact hTb
            omega
          have KTM := Lib.hid (fun (m : Nat) (hm : m < 256) (w : World) => rTimes_c b m w (by omega) (hm256 m hm))
          have KMD := Lib.hid (fun (m : Nat) (hm : m < 256) (w : World) => rMade1_b m w hm)
          have KCP := Lib.hid (fun (m : Nat) (hm : m < 256) (w : World) => rCmp_c (b * m) T w (Nat.le_trans (hbm256 m hm) (by omega)) hfT)
          have KSB := Lib.hid (fun (w : World) => rSub_ge T (b * q) w hfT (Nat.le_trans (hbm256 q (by omega)) (by omega)) (by rw [hq]; exact Nat.mul_div_le T b))
          have hTq : T - b * q = T % b := by rw [hq]; have := Nat.mod_add_div T b; omega
          have HHQ := Lib.hid hq
          have HQT := Lib.hid hqT
          have HRT := Lib.hid hrT
          have HTQ := Lib.hid hTq
          clear hT hqT hrT hTb hnb hTn hfT hbm256 hm256 hq hTq hd2 hwc L2 hE
          clear H1 H2 H2t H3 H2d H2n HGD hd his
          obtain ⟨ws, hws⟩ : ∃ ws, ws = wr := ⟨_, rfl⟩
          have hbs : Below ws.heap.size ws wc := by rw [hws]; exact hbc
          have HWS := Lib.hid hws
          have hbws : Below g w ws := by rw [hws]; exact hbw
          have hblks : Hid (Blk ws g 3 (fcells .i64 (quoF (a / b) N i) N)) := by rw [hws]; exact hblk
          clear hbc hws
          go_wp2_with fail
          go_loopw [11, 12] (fun lo hi w2 => ∃ l h : Nat, lo = .int .i64 l ∧ hi = .int .i64 h ∧ l ≤ q ∧ q ≤ h ∧ h ≤ 255 ∧ Below ws.heap.size ws w2) (fun lo hi _ => (intOf hi - intOf lo).toNat)
          case atStart => exact ⟨0, 255, rfl, rfl, Nat.zero_le _, hq255, Nat.le_refl _, hbs⟩
          case round =>
            obtain ⟨l, h, rfl, rfl, hl, hh, h255, hb2⟩ := hrel
            by_cases hlh : l < h
            · obtain ⟨m, hm⟩ : ∃ m, m = (l + h + 1) / 2 := ⟨_, rfl⟩
              obtain ⟨m1, m2, m3, m4⟩ := search_mid HB0.out HHQ.out hl hh hlh hm
              have hmI : ((l : Int) + (h : Int) + 1).tdiv 2 = (m : Int) := by rw [Int.tdiv_eq_ediv_of_nonneg (by omega)]; omega
              have hm2 : m < 256 := by omega
              have K1 := Lib.hid (KMD.out m hm2)
              have K2 := Lib.hid (KTM.out m hm2)
              have K3 := Lib.hid (KCP.out m hm2)
              have hcc : ∃ cc : Int, cmpN (b * m) T = cc ∧ ((b * m ≤ T ∧ cc ≤ 0) ∨ (¬ b * m ≤ T ∧ ¬ cc ≤ 0)) := by
                rcases Nat.lt_trichotomy (b * m) T with c | c | c
                · exact ⟨-1, cmpN_lt c, Or.inl ⟨by omega, by omega⟩⟩
                · exact ⟨0, by rw [c]; exact cmpN_eq T, Or.inl ⟨by omega, by omega⟩⟩
                · exact ⟨1, cmpN_gt c, Or.inr ⟨by omega, by omega⟩⟩
              obtain ⟨cc, hc1, hc2⟩ := hcc
              have HC1 := Lib.hid hc1
              clear hc1 hm
              rcases hc2 with ⟨hc3, hc4⟩ | ⟨hc3, hc4⟩
              · have hq1 := m3 hc3
                clear m3 m4
                have HC3 := Lib.hid hc3
                clear hc3
                go_wp2_with fail
                refine (K1.out _).mono ?_
                rintro e wm ⟨rfl, hbm⟩
                go_wp2_with fail
                refine (K2.out _).mono ?_
                rintro e wt ⟨rfl, hbt⟩
                go_wp2_with fail
                refine (K3.out _).mono ?_
                rintro e wc2 ⟨rfl, hdr⟩
                obtain ⟨nn, rfl⟩ := hdr
                rw [HC1.out]
                have hbf : Below ws.heap.size ws (wt.drewN nn) := SB_any (below_chain (below_chain (SB_alloc hb2 _) hbm) hbt) nn
                go_wp2_with fail
                go_roundw
                case rel => exact ⟨m, h, rfl, rfl, hq1, hh, h255, hbf⟩
                case measure => simp [intOf]; omega
              · have hq1 := m4 hc3
                clear m3 m4
                have HC3 := Lib.hid hc3
                clear hc3
                go_wp2_with fail
                refine (K1.out _).mono ?_
                rintro e wm ⟨rfl, hbm⟩
                go_wp2_with fail
                refine (K2.out _).mono ?_
                rintro e wt ⟨rfl, hbt⟩
                go_wp2_with fail
                refine (K3.out _).mono ?_
                rintro e wc2 ⟨rfl, hdr⟩
                obtain ⟨nn, rfl⟩ := hdr
                rw [HC1.out]
                have hbf : Below ws.heap.size ws (wt.drewN nn) := SB_any (below_chain (below_chain (SB_alloc hb2 _) hbm) hbt) nn
                go_wp2_with fail
                go_roundw
                case rel => exact ⟨l, m - 1, rfl, by go_num, hl, hq1, by omega, hbf⟩
                case measure => simp [intOf]; omega
            · obtain rfl : l = q := by omega
              have hblk2 := hblks.out.below hb2 hblks.out.lt
              have hg2 := hblk2.lt
              have hjN : j < N := by have := HJ.out; omega
              have hjI : (N : Int) - 1 - (i : Int) = (j : Int) := by have := HJ.out; omega
              obtain ⟨z, hz⟩ : ∃ z, z = quoF (a / b) N i j := ⟨_, rfl⟩
              have hcz := hblk2.cell j
              rw [fcells_get _ _ _ _ hjN, ← hz] at hcz
              have hfz := hblk2.frozen j
              have HB1 := hblk2.set_ j (.int .i64 ((l : Nat) : Int))
              rw [fcells_set, fcells_congr (f' := quoF (a / b) N (i + 1)) (fun x hx => by
                have h1 := quoF_step (Z := a / b) HJ.out hx
                rw [← h1, HQT.out, ← HHQ.out])] at HB1
              have HB2 := Lib.hid HB1
              have hbg : Below g w wr := hbws.trans (hb2.mono (Nat.le_of_lt hblks.out.lt))
              have hb1 := hbg.setCell (p := ⟨g, j, none⟩) (Nat.le_refl _) (.int .i64 ((l : Nat) : Int))
              have K1 := Lib.hid (KMD.out l (by omega))
              have K2 := Lib.hid (KTM.out l (by omega))
              have hln : l ≤ 255 := hq255
              have hwj : IntKind.i64.wrap ((N : Int) - 1 - (i : Int)) = (j : Int) := by rw [IntWalk.i64_in _ (by omega)]; exact hjI
              clear HB1 hblk2 hz hbg hblk
              have HSZ : Hid ((wr.setCell ⟨g, j, none⟩ (.int .i64 ((l : Nat) : Int))).heap.size = wr.heap.size) := Lib.hid (by simp [World.setCell])
              go_wp2_with fail
              generalize wr.setCell ⟨g, j, none⟩ (.int .i64 ((l : Nat) : Int)) = wS at *
              have hgs : g < wS.heap.size := HB2.out.lt
              rw [← HSZ.out]
              refine (K1.out _).mono ?_
              rintro e wm ⟨rfl, hbm⟩
              go_wp2_with fail
              refine (K2.out _).mono ?_
              rintro e wt ⟨rfl, hbt⟩
              go_wp2_with fail
              refine (KSB.out _).mono ?_
              rintro e wf ⟨rfl, hbf⟩
              have hSf : Below wS.heap.size wS wf := below_chain (below_chain (below_chain (SB_alloc (Below.refl _ _) _) hbm) hbt) hbf
              have hbe : Below g w wf := hb1.trans (hSf.mono (Nat.le_of_lt hgs))
              have hbk : Hid (Blk wf g 3 (fcells .i64 (quoF (a / b) N (i + 1)) N)) := HB2.out.below hSf hgs
              clear HB2 hb1 hbm hbt hbf
              go_wp2_with fail
              go_roundw
              case rel => exact ⟨i + 1, by omega, by go_num, by rw [HTQ.out, HRT.out], hbk, hbe⟩
              case measure => simp [intOf]; omega
      · obtain rfl : i = N := by omega
        have hZ : of 256 ((List.range i).map (quoF (a / b) i i)) = a / b := by
          have e : (List.range i).map (quoF (a / b) i i) = dl 256 (a / b) i := by
            unfold dl
            apply List.map_congr_left
            intro j _
            unfold quoF; rw [if_pos (by omega)]
          rw [e, of_dl]
          refine Nat.mod_eq_of_lt ((lt_pow_iff (b := 256) (by omega) _ _).2 ?_)
          have := nd_mono (b := 256) (by omega) (Nat.div_le_self a b)
          rw [HNE.out] at this; exact this
        have HZ := Lib.hid hZ
        have hown := Own.of_fcells hblk.out (Nat.le_refl _) (by omega)
        have KM := rMade_c g _ _ wr (fun x hx => by
          obtain ⟨j, _, rfl⟩ := List.mem_map.1 hx
          unfold quoF
          split
          · exact dgt_lt (by omega) _ _
          · omega) (by rw [List.length_map, List.length_range]; omega) hown
        rw [HZ.out] at KM
        have HKM := Lib.hid KM
        have hpa : pre a i i % b = a % b := by rw [pre_all]
        rw [hpa]
        have HBW := Lib.hid (by have h := hbw; rw [HG.out] at h; exact h : Below w.heap.size w wr)
        clear hZ hown KM hpa
        go_wp2_with fail
        refine HKM.out.mono ?_
        rintro e w' ⟨rfl, hb'⟩
        go_wp2_with fail
        go_ret3
        exact ⟨rfl, below_chain HBW.out hb'⟩
/-- The document's Div, of any two numbers of up to 5000 digits. -/
theorem rDiv_c (a b : Nat) (w : World) (hb : b ≠ 0) (hA : nd 256 a ≤ 5000) (hB : nd 256 b ≤ 5000) :
    Calls Try.prog 44 #[.string (natS a), .string (natS b)] w (Str2Post (natS (a / b)) (natS (a % b)) 0 w) := by
  by_cases h : nd 256 a < nd 256 b - 1
  · exact rDiv_at a b _ (nd 256 a) w hb rfl (Nat.le_refl _) hA hB (Or.inr ⟨rfl, h⟩)
  · exact rDiv_at a b _ (nd 256 b - 1) w hb rfl (by omega) hA hB (Or.inl ⟨rfl, h⟩)
end Go.Proofs.Ytjcicbnjoffbhaa
