/- Texts put together: D30 D31 D32 D33 D34 D35 D36 D37 D38 D39 D40 D41 D42 D43 D44 D45 SyD D46 D47 D48 G1 G2 G3 V1 Aw24 V4. -/
import Derived.Test.YtjalpocjgpgcfaaGreatDoorQ4
import Derived.Test.YtjalpocjgpgcfaaGreatDoorQ2
import Derived.Test.YtjalpocjgpgcfaaGreatDoorQ3
set_option linter.unusedSimpArgs false
set_option linter.unusedVariables false
namespace Go.Proofs.YtjalpocjgpgcfaaGreatDoor
open Go Go.RowKit Nt

theorem low_word {n i : Nat} (hz : ∀ j, j < i → dgt W n j = 0) (hd : dgt W n i ≠ 0) : lowN n = 64 * i + Lib.ctz 64 (dgt W n i) := by
  have h0 : n % W ^ i = 0 := by
    have := mod_eq_of_digits (b := W) n 0 i (fun j hj => by rw [hz j hj, dgt_def, Nat.zero_div, Nat.zero_mod])
    rwa [Nat.zero_mod] at this
  have hdl : dgt W n i < 18446744073709551616 := wd_lt n i
  obtain ⟨t1, t2, t3⟩ := Bt.tz_spec (Nat.pos_of_ne_zero hd) hdl
  have e : Lib.ctz 64 (dgt W n i) = Bt.tz (dgt W n i) := rfl
  rw [e]
  have hm : n = W ^ i * (n / W ^ i) := by have := Nat.div_add_mod n (W ^ i); rw [h0] at this; omega
  have hd2 : n / W ^ i = dgt W n i + W * (n / W ^ i / W) := by
    rw [dgt_def]; have := Nat.mod_add_div (n / W ^ i) W; omega
  generalize dgt W n i = d at *
  generalize n / W ^ i / W = q at *
  generalize hmm : n / W ^ i = m at *
  clear hz h0 e hd hdl hmm
  have hp : W = 2 ^ Bt.tz d * 2 ^ (64 - Bt.tz d) := by rw [← Nat.pow_add, show Bt.tz d + (64 - Bt.tz d) = 64 by omega]; exact W_two
  refine (od_unique (o := Bt.od d + 2 ^ (64 - Bt.tz d) * q) ?_ ?_).1
  · rw [show 64 - Bt.tz d = (64 - Bt.tz d - 1) + 1 by omega, Nat.pow_succ]
    have : 2 ^ (64 - Bt.tz d - 1) * 2 * q = 2 * (2 ^ (64 - Bt.tz d - 1) * q) := by rw [Nat.mul_comm (2 ^ (64 - Bt.tz d - 1)) 2, Nat.mul_assoc]
    omega
  · rw [hm, hd2, Nat.pow_add, Nat.pow_mul, ← W_two, Nat.add_mul, ← Nat.mul_assoc, Nat.mul_comm (Bt.od d), Nat.mul_assoc (W ^ i), t1]
    rw [Nat.mul_add]
    congr 1
    rw [hp]
    simp only [Nat.mul_assoc, Nat.mul_comm, Nat.mul_left_comm]
set_option maxRecDepth 100000 in
set_option maxHeartbeats 1000000 in
theorem LLow_c (A : Option Addr) (c n B : Nat) (w : World) (hL : nd W n ≤ 1000000000) (hr : Row w B A n (nd W n)) (hT : Bt.Tabs w) :
    Calls Tryz.prog 75 #[.slice A (nd W n) c] w fun e w' => e = .returned (.int .i64 (lowN n : Nat)) ∧ w = w' := by
  obtain ⟨L, hLe⟩ : ∃ L, L = nd W n := ⟨_, rfl⟩
  have HT := Lib.hid hT.1
  have hn : n < W ^ nd W n := lt_nd W2
  rw [← hLe] at hL hr hn ⊢
  have HR := Lib.hid hr
  have HN := Lib.hid hn
  clear hr hLe hT hn
  go_enter Tryz.func75, Tryz.ntmps75
  go_wp2_with fail
  go_loop [7] (fun i => ∃ k : Nat, k ≤ L ∧ i = .int .i64 k ∧ Hid (∀ j, j < k → dgt W n j = 0)) (fun i => L - (intOf i).toNat)
  case atStart => exact ⟨0, Nat.zero_le _, rfl, Lib.hid (fun j h => by omega)⟩
  case round =>
    obtain ⟨k, hk, rfl, hz⟩ := hrel
    by_cases hlt : k < L
    · obtain ⟨g, rfl, hg, hc⟩ := HR.out.at_ hlt
      have hdl := wd_lt n k
      by_cases hd : dgt W n k = 0
      · rw [hd] at hc
        have HZ := Lib.hid (show ∀ j, j < k + 1 → dgt W n j = 0 from fun j hj => by
          rcases Nat.lt_or_ge j k with h | h
          · exact hz.out j h
          · obtain rfl : j = k := by omega
            exact hd)
        clear hd hdl
        go_wp2_with fail
        go_round
        case rel => exact ⟨k + 1, by omega, by go_num, HZ⟩
        case measure => simp [intOf]; omega
      · have hne : (((dgt W n k : Nat) : Int) != 0) = true := by rw [bne_iff_ne]; omega
        have HE := Lib.hid (low_word hz.out hd)
        have KT := Lib.hid (fun w hT => Tryz.bits_TrailingZeros64 (dgt W n k) hdl w hT)
        have hct : Lib.ctz 64 (dgt W n k) < 64 := (Bt.tz_spec (Nat.pos_of_ne_zero hd) hdl).2.2
        generalize dgt W n k = d at *
        generalize Lib.ctz 64 d = t at *
        clear hd hdl
        go_wp2_with fail
        refine (KT.out _ (fun _ => HT.out)).mono ?_
        rintro e w' ⟨rfl, rfl⟩
        go_wp2_with fail
        go_ret
        exact ⟨by rw [HE.out, Int.natCast_add, Int.natCast_mul]; rfl, rfl⟩
    · obtain rfl : k = L := by omega
      have h0 : lowN n = 0 := by
        have : n = 0 := eq_of_digits (b := W) (L := k) HN.out (Nat.pow_pos W0) (fun i hi => by rw [hz.out i hi, dgt_def, Nat.zero_div, Nat.zero_mod])
        rw [this, lowN_zero]
      have HZ := Lib.hid h0
      clear h0
      go_wp2_with fail
      go_ret
      exact ⟨by rw [HZ.out]; rfl, rfl⟩
end Go.Proofs.YtjalpocjgpgcfaaGreatDoor
set_option linter.unusedSimpArgs false
set_option linter.unusedVariables false
namespace Go.Proofs.YtjalpocjgpgcfaaGreatDoor
open Go Go.RowKit Nt

theorem fit_shift (g : Bool) (n : Nat) (x : Int) : mkD g (odN n) (x + (lowN n : Int)) = mkD g n x ∧ mkE (odN n) (x + (lowN n : Int)) = mkE n x := by
  by_cases h0 : n = 0
  · subst h0; rw [odN_zero, mkD_zero, mkD_zero, mkE_zero, mkE_zero]; exact ⟨rfl, rfl⟩
  · have h := mkD_shift g (odN n) (lowN n) (x + (lowN n : Int))
    rw [← (odN_spec h0).2, show x + (lowN n : Int) - (lowN n : Int) = x by omega] at h
    exact ⟨h.1.symm, h.2.symm⟩
theorem nd2_W {n m : Nat} (h : nd W n ≤ m) : nd 2 n ≤ 64 * m := (nd_pow (b := 2) (c := W) (e := 64) (by omega) (by omega) W_two n m).2 h
theorem fit_bits {n : Nat} : (131072 < nd 2 n - lowN n) ↔ ¬ fits (odN n) := by
  by_cases h0 : n = 0
  · subst h0; rw [odN_zero, nd_zero]; exact ⟨fun c => by omega, fun c => absurd fits_zero c⟩
  · have h1 := nd_odN h0
    have h2 := bits_le (odN n) 16384
    unfold fits
    omega
theorem Row.allocd {w : World} {B : Nat} {A : Option Addr} {n L : Nat} (h : Row w B A n L) (hB : B ≤ w.heap.size) (b : Obj) : Row (w.alloc b) B A n L := h.below ((Below.refl _ _).alloc hB _)
set_option maxRecDepth 100000 in
set_option maxHeartbeats 1000000 in
theorem DFit_c (g : Bool) (n : Nat) (x : Int) (A : Option Addr) (c B : Nat) (w : World) (hn : nd W n ≤ 10000) (hx : -2000000 ≤ x ∧ x ≤ 2000000) (hr : Row w B A n (nd W n)) (hB : B ≤ w.heap.size) (hT : Bt.Tabs w) :
    Calls Tryz.prog 43 #[.bool g, .slice A (nd W n) c, .int .i64 x] w (MkPost g n x w) := by
  have hbits := nd2_W hn
  have hll : lowN n ≤ nd 2 n := by
    by_cases h0 : n = 0
    · rw [h0, lowN_zero]; omega
    · exact Nat.le_of_lt (low_lt h0 (lowN_is n))
  have hfb := @fit_bits n
  have K1 : Hid (∀ b, Calls Tryz.prog 75 #[.slice A (nd W n) c] (w.alloc b) fun e w' => e = .returned (.int .i64 (lowN n : Nat)) ∧ w.alloc b = w') := Lib.hid fun b => LLow_c A c n B _ (by omega) (hr.allocd hB b) (box_tabs hT)
  have K2 : Hid (∀ b, Calls Tryz.prog 76 #[.slice A (nd W n) c] (w.alloc b) fun e w' => e = .returned (.int .i64 (nd 2 n : Nat)) ∧ w.alloc b = w') := Lib.hid fun b => Len_c A c n B _ (by omega) (hr.allocd hB b)
  have K3 : Hid (∀ b, Calls Tryz.prog 78 #[.slice A (nd W n) c, .int .i64 (lowN n : Nat)] (w.alloc b) (NumPost (odN n) (w.alloc b))) := Lib.hid fun b => by
    have := Shr_c A c n (lowN n) B (w.alloc b) (by omega) (by omega) (hr.allocd hB b) (Nat.le_trans hB (by simp))
    unfold odN; exact this
  have hno : nd W (odN n) ≤ 10000 := Nat.le_trans (nd_mono W2 (odN_le n)) hn
  have K4 := Lib.hid (fun A' c' w' (hr' : Row w' w'.heap.size A' (odN n) (nd W (odN n))) => Bytes_c A' c' (odN n) w'.heap.size w' (by omega) hr' (Nat.le_refl _))
  have hfs := fit_shift g n x
  by_cases hfit : fits (odN n)
  · have KM : Hid (∀ w, Calls Tryz.prog 52 #[.bool g, .string (natS (odN n)), .int .i64 (x + (lowN n : Int))] w fun e w' => e = .returned (.tuple #[(mkD g n x).v, .int .i64 (mkE n x)]) ∧ Below w.heap.size w w') := Lib.hid fun w => by
      have := DMake_c g (odN n) (x + (lowN n : Int)) w hfit (by omega)
      unfold MkPost at this
      rw [hfs.1, hfs.2] at this
      exact this
    have h1 : ¬ (131072 : Int) < ((nd 2 n : Nat) : Int) - ((lowN n : Nat) : Int) := by
      have : ¬ 131072 < nd 2 n - lowN n := fun c => hfb.1 c hfit
      omega
    clear hfb hr hB hT hfit hfs
    clear hno hn
    unfold MkPost
    generalize mkD g n x = D at *
    generalize mkE n x = E at *
    go_enter Tryz.func43, Tryz.ntmps43
    go_wp2_with fail
    refine (K1.out _).mono ?_
    rintro e w' ⟨rfl, rfl⟩
    go_wp2_with fail
    refine (K2.out _).mono ?_
    rintro e w' ⟨rfl, rfl⟩
    go_wp2_with fail
    refine (K3.out _).mono ?_
    rintro e w1 hnp
    obtain ⟨A3, c3, rfl, hc3, hr3, hb3⟩ := hnp.get
    have HR3 := Lib.hid hr3
    clear hr3 hc3 hnp
    go_wp2_with fail
    refine (K4.out _ _ _ HR3.out).mono ?_
    rintro e w2 ⟨rfl, hb4⟩
    have hb := below_then hb3 hb4
    clear hb3 hb4
    go_wp2_with fail
    refine (KM.out _).mono ?_
    rintro e w3 ⟨rfl, hb5⟩
    have hb := below_then hb hb5
    obtain ⟨hcl, hfz⟩ := bcell hb
    have hsz := box1 hb
    clear hb5
    unfold Dy.v
    go_wp2_with fail
    refine bodyPost_ret (v := .tuple #[D.v, .int .i64 E]) (by simp [results, Tryz.results43, go_sem, hcl, hsz, Dy.v]) rfl ⟨rfl, ?_⟩
    repeat (refine Below.setCell ?_ (by simp) _)
    exact box_below hb
  · have hno2 : ¬ mkOk3 n x := by
      rintro (h | ⟨h, _⟩)
      · subst h; rw [odN_zero] at hfit; exact hfit fits_zero
      · exact hfit h
    have HNO := Lib.hid hno2
    have h1 : (131072 : Int) < ((nd 2 n : Nat) : Int) - ((lowN n : Nat) : Int) := by
      have := hfb.2 hfit
      omega
    clear hfb hr hB hT hfit hfs hno2
    clear hno hn
    go_enter Tryz.func43, Tryz.ntmps43
    go_wp2_with fail
    refine (K1.out _).mono ?_
    rintro e w' ⟨rfl, rfl⟩
    go_wp2_with fail
    refine (K2.out _).mono ?_
    rintro e w' ⟨rfl, rfl⟩
    go_wp2_with fail
    refine bodyPost_ret (v := .tuple #[.agg #[.bool false, .string ⟨#[]⟩, .int .i64 0], .int .i64 4]) (by simp [results, Tryz.results43, go_sem]) rfl (MkPost.no HNO.out rfl ?_)
    repeat (refine Below.setCell ?_ (by simp) _)
    exact (Below.refl _ _).alloc (Nat.le_refl _) _
end Go.Proofs.YtjalpocjgpgcfaaGreatDoor
set_option linter.unusedSimpArgs false
set_option linter.unusedVariables false
namespace Go.Proofs.YtjalpocjgpgcfaaGreatDoor
open Go Go.RowKit Nt

def sgnd (g : Bool) (m : Nat) : Int := if g then -(m : Int) else (m : Int)
def sumG (g h : Bool) (X Y : Nat) : Bool := if g = h then g else if X < Y then h else g
def sumN (g h : Bool) (X Y : Nat) : Nat := if g = h then X + Y else if X < Y then Y - X else X - Y
theorem sum_abs (g h : Bool) (X Y : Nat) : (sgnd g X + sgnd h Y).natAbs = sumN g h X Y := by
  unfold sgnd sumN
  cases g <;> cases h <;> simp <;> (try split) <;> omega
theorem sum_sgn (g h : Bool) (X Y : Nat) (h0 : sumN g h X Y ≠ 0) : decide (sgnd g X + sgnd h Y < 0) = sumG g h X Y := by
  by_cases hl : X < Y <;> cases g <;> cases h <;> simp [sgnd, sumN, sumG, hl] at h0 ⊢ <;> omega
theorem sum_mk (g h : Bool) (X Y : Nat) (x : Int) : mkD (decide (sgnd g X + sgnd h Y < 0)) (sgnd g X + sgnd h Y).natAbs x = mkD (sumG g h X Y) (sumN g h X Y) x := by
  rw [sum_abs]
  by_cases h0 : sumN g h X Y = 0
  · rw [h0, mkD_zero, mkD_zero]
  · rw [sum_sgn g h X Y h0]
/-- a and b, a's exponent not below b's. -/
@[irreducible] def hiD (a b : Dy) : Dy := mkD (sumG a.g b.g (upN a b) b.n) (sumN a.g b.g (upN a b) b.n) b.x
@[irreducible] def hiE (a b : Dy) : Int := mkE (sumN a.g b.g (upN a b) b.n) b.x
theorem hiD_eq (a b : Dy) : hiD a b = mkD (sumG a.g b.g (upN a b) b.n) (sumN a.g b.g (upN a b) b.n) b.x := by unfold hiD; rfl
theorem hiE_eq (a b : Dy) : hiE a b = mkE (sumN a.g b.g (upN a b) b.n) b.x := by unfold hiE; rfl
@[irreducible] def addD (a b : Dy) : Dy := if a.n = 0 then b else if b.n = 0 then a else if a.x < b.x then hiD b a else hiD a b
@[irreducible] def addE (a b : Dy) : Int := if a.n = 0 then 0 else if b.n = 0 then 0 else if a.x < b.x then hiE b a else hiE a b
theorem add_zl {a b : Dy} (h : a.n = 0) : addD a b = b ∧ addE a b = 0 := by unfold addD addE; rw [if_pos h, if_pos h]; exact ⟨rfl, rfl⟩
theorem add_zr {a b : Dy} (h0 : a.n ≠ 0) (h : b.n = 0) : addD a b = a ∧ addE a b = 0 := by unfold addD addE; rw [if_neg h0, if_neg h0, if_pos h, if_pos h]; exact ⟨rfl, rfl⟩
theorem add_lt {a b : Dy} (h0 : a.n ≠ 0) (h1 : b.n ≠ 0) (h : a.x < b.x) : addD a b = hiD b a ∧ addE a b = hiE b a := by unfold addD addE; rw [if_neg h0, if_neg h0, if_neg h1, if_neg h1, if_pos h, if_pos h]; exact ⟨rfl, rfl⟩
theorem add_ge {a b : Dy} (h0 : a.n ≠ 0) (h1 : b.n ≠ 0) (h : ¬ a.x < b.x) : addD a b = hiD a b ∧ addE a b = hiE a b := by unfold addD addE; rw [if_neg h0, if_neg h0, if_neg h1, if_neg h1, if_neg h, if_neg h]; exact ⟨rfl, rfl⟩
theorem add_Ok {a b : Dy} (ha : a.Ok) (hb : b.Ok) : (addD a b).Ok := by
  unfold addD
  split
  · exact hb
  · split
    · exact ha
    · split
      · rw [hiD_eq]; exact mkD_Ok _ _ _
      · rw [hiD_eq]; exact mkD_Ok _ _ _
theorem sgnd_i64 {m : Nat} (h : m ≤ 9223372036854775807) : IntKind.i64.wrap (m : Int) = (m : Int) ∧ IntKind.i64.wrap (-(m : Int)) = -(m : Int) := ⟨IntWalk.i64_in _ (by omega), IntWalk.i64_in _ (by omega)⟩
set_option maxRecDepth 100000 in
theorem Dsigned_c (g : Bool) (m : Nat) (w : World) (hm : m ≤ 9223372036854775807) :
    Calls Tryz.prog 73 #[.bool g, .int .u64 (m : Nat)] w fun e w' => e = .returned (.int .i64 (sgnd g m)) ∧ w = w' := by
  obtain ⟨h1, h2⟩ := sgnd_i64 hm
  have h3 : wrap64 (m : Int) = (m : Int) := IntWalk.wrap64_in _ (by omega)
  have h4 : wrap64 (-(m : Int)) = -(m : Int) := IntWalk.wrap64_in _ (by omega)
  cases g
  · go_enter Tryz.func73, Tryz.ntmps73
    go_wp2
    go_ret
    exact ⟨rfl, rfl⟩
  · go_enter Tryz.func73, Tryz.ntmps73
    go_wp2
    go_ret
    exact ⟨rfl, rfl⟩
end Go.Proofs.YtjalpocjgpgcfaaGreatDoor
set_option linter.unusedSimpArgs false
set_option linter.unusedVariables false
namespace Go.Proofs.YtjalpocjgpgcfaaGreatDoor
open Go Go.RowKit Nt

theorem len64_nd (m : Nat) (hm : m < 18446744073709551616) (w : World) : Calls Tryz.prog 72 #[.int .u64 (m : Nat)] w fun e w' => e = .returned (.int .i64 (nd 2 m : Nat)) ∧ w' = w := by
  have := Tryz.bits_Len64 (m : Int) w (by omega) (by omega)
  rw [Int.toNat_natCast, bitLen_nd hm] at this
  exact this
/-- What briefSum leaves: nothing, or the sum. -/
def BrPost (a b : Dy) (w : World) (e : Ending) (w' : World) : Prop := ∃ (D : Dy) (ok : Bool), e = .returned (.tuple #[.agg #[.bool D.g, .string (natS D.n), .int .i64 D.x], .bool ok]) ∧ (ok = true → D = hiD a b ∧ hiE a b = 0) ∧ Below w.heap.size w w'
theorem TB3 {w : World} {a b : Dt} {W w1 : World} {o : Obj} (h : TB w a b W) (hb : Below (W.alloc o).heap.size (W.alloc o) w1) : TB w a b w1 := (h.more o).step hb
theorem pow_lt62 {m j : Nat} (h : nd 2 m + j ≤ 62) : m * 2 ^ j < 4611686018427387904 := by
  have h1 : m < 2 ^ nd 2 m := lt_nd (by omega)
  have h2 : m * 2 ^ j < 2 ^ nd 2 m * 2 ^ j := Nat.mul_lt_mul_of_pos_right h1 (Nat.two_pow_pos j)
  rw [← Nat.pow_add] at h2
  exact Nat.lt_of_lt_of_le h2 (Nat.le_trans (Nat.pow_le_pow_right (by omega) h) (by decide))
theorem lt62 {m : Nat} (h : nd 2 m ≤ 62) : m < 4611686018427387904 := by
  have := pow_lt62 (m := m) (j := 0) (by omega)
  rwa [Nat.pow_zero, Nat.mul_one] at this
set_option maxRecDepth 100000 in
set_option maxHeartbeats 2000000 in
theorem Dbrief_no (a b : Dy) (j : Nat) (w : World) (ha : a.Num) (hb : b.Num) (hj : j ≤ 3000000) (hno : brB a.n = false ∨ (brB a.n = true ∧ brB b.n = false) ∨ (brB a.n = true ∧ brB b.n = true ∧ 62 < j) ∨ (brB a.n = true ∧ brB b.n = true ∧ ¬ 62 < j ∧ 62 < nd 2 a.n + j) ∨ (brB a.n = true ∧ brB b.n = true ∧ ¬ 62 < j ∧ ¬ 62 < nd 2 a.n + j ∧ 62 < nd 2 b.n)) :
    Calls Tryz.prog 40 #[.agg #[.bool a.g, .string (natS a.n), .int .i64 a.x], .agg #[.bool b.g, .string (natS b.n), .int .i64 b.x], .int .i64 (j : Nat)] w (BrPost a b w) := by
  have KA := Lib.hid (fun w => Small_c a.n w ha.1)
  have KB := Lib.hid (fun w => Small_c b.n w hb.1)
  have hba := bits_131072' ha.1
  have hbb := bits_131072' hb.1
  have T0 := TB.start w a.t b.t
  unfold Dy.t at T0
  have KLa : Hid (∀ w, brB a.n = true → Calls Tryz.prog 72 #[.int .u64 (brN a.n : Nat)] w fun e w' => e = .returned (.int .i64 (nd 2 a.n : Nat)) ∧ w' = w) := Lib.hid fun w h => by
    have h1 := br_lt.1 (brB_true h)
    have h2 : brN a.n = a.n := brN_yes (brB_true h)
    rw [h2]; exact len64_nd a.n h1 w
  have KLb : Hid (∀ w, brB b.n = true → Calls Tryz.prog 72 #[.int .u64 (brN b.n : Nat)] w fun e w' => e = .returned (.int .i64 (nd 2 b.n : Nat)) ∧ w' = w) := Lib.hid fun w h => by
    have h1 := br_lt.1 (brB_true h)
    have h2 : brN b.n = b.n := brN_yes (brB_true h)
    rw [h2]; exact len64_nd b.n h1 w
  clear ha hb
  rcases hno with c1 | ⟨c1, c2⟩ | ⟨c1, c2, c3⟩ | ⟨c1, c2, c3, c4⟩ | ⟨c1, c2, c3, c4, c5⟩
  all_goals
    go_enter Tryz.func40, Tryz.ntmps40
    go_wp2_with fail
    refine (KA.out _).mono ?_
    rintro e w1 ⟨rfl, hb⟩
    have hb1 := (TB.start w a.t b.t).more (.cells #[.bool false, .string ⟨#[]⟩, .int .i64 0] 24) |>.1
    obtain ⟨hcl, hfz⟩ := bcell hb
    have hsz : w.heap.size + 2 < w1.heap.size := by have := hb.size; simp at this; omega
    replace T0 := TB3 T0 hb
    obtain ⟨p0, p1, p2, p3, p4, p5, p6⟩ := T0.2.1.facts
    obtain ⟨q0, q1, q2, q3, q4, q5, q6⟩ := T0.2.2.facts
    go_wp2_with fail
    refine (KB.out _).mono ?_
    rintro e w2 ⟨rfl, hbb2⟩
    replace T0 := T0.step hbb2
    have hb3 := hb.trans (hbb2.mono hb.size)
    clear hb hbb2 hcl hfz p0 p1 p2 p3 p4 p5 p6 q0 q1 q2 q3 q4 q5 q6
    obtain ⟨hcl, hfz⟩ := bcell hb3
    have hsz2 : w.heap.size + 2 < w2.heap.size := by have := hb3.size; simp at this; omega
    go_wp2_with (first
      | (go_at_call 72; (with_reducible refine (KLa.out _ c1).mono ?_); rintro e w' ⟨rfl, rfl⟩)
      | (go_at_call 72; (with_reducible refine (KLb.out _ c2).mono ?_); rintro e w' ⟨rfl, rfl⟩))
    refine bodyPost_ret (v := .tuple #[.agg #[.bool false, .string ⟨#[]⟩, .int .i64 0], .bool false]) (by simp [results, Tryz.results40, go_sem, hcl, hsz, hsz2]) rfl ⟨Dy.zero, false, by rw [← natS_zero]; rfl, fun c => (by cases c), ?_⟩
    repeat (refine Below.setCell ?_ (by simp; omega) _)
    exact T0.1
end Go.Proofs.YtjalpocjgpgcfaaGreatDoor
set_option linter.unusedSimpArgs false
set_option linter.unusedVariables false
namespace Go.Proofs.YtjalpocjgpgcfaaGreatDoor
open Go Go.RowKit Nt

theorem shl_u64 {m j X : Nat} (hX : X = m * 2 ^ j) (h : X < 18446744073709551616) : Hid (IntKind.u64.wrap ((m : Int) * 2 ^ j) = (X : Int)) := Lib.hid (by
  rw [wr_pow (s := 2 ^ j) rfl, ← hX, IntKind.wrap_u64]; clear hX; omega)
theorem sgnd_b (g : Bool) {m : Nat} (h : m < 4611686018427387904) : -4611686018427387904 < sgnd g m ∧ sgnd g m < 4611686018427387904 := by
  unfold sgnd; cases g <;> simp <;> omega
set_option maxRecDepth 100000 in
set_option maxHeartbeats 2000000 in
theorem Dbrief_yes (a b : Dy) (j : Nat) (w : World) (ha : a.Num) (hb : b.Num) (hj : j = (a.x - b.x).toNat) (c1 : brB a.n = true) (c2 : brB b.n = true) (c3 : ¬ 62 < j) (c4 : ¬ 62 < nd 2 a.n + j) (c5 : ¬ 62 < nd 2 b.n) :
    Calls Tryz.prog 40 #[.agg #[.bool a.g, .string (natS a.n), .int .i64 a.x], .agg #[.bool b.g, .string (natS b.n), .int .i64 b.x], .int .i64 (j : Nat)] w (BrPost a b w) := by
  have hna : brN a.n = a.n := brN_yes (brB_true c1)
  have hnb : brN b.n = b.n := brN_yes (brB_true c2)
  have KA := Lib.hid (fun w => Small_c a.n w ha.1)
  have KB := Lib.hid (fun w => Small_c b.n w hb.1)
  rw [hna, c1] at KA
  rw [hnb, c2] at KB
  have T0 := TB.start w a.t b.t
  unfold Dy.t at T0
  have KLa := Lib.hid (fun w => len64_nd a.n (br_lt.1 (brB_true c1)) w)
  have KLb := Lib.hid (fun w => len64_nd b.n (br_lt.1 (brB_true c2)) w)
  obtain ⟨X, hX⟩ : ∃ X, X = a.n * 2 ^ j := ⟨_, rfl⟩
  have hXb : X < 4611686018427387904 := by rw [hX]; exact pow_lt62 (by omega)
  have hYb : b.n < 4611686018427387904 := lt62 (by omega)
  have HSH := shl_u64 hX (by omega)
  have KSa := Lib.hid (fun w => Dsigned_c a.g X w (by omega))
  have KSb := Lib.hid (fun w => Dsigned_c b.g b.n w (by omega))
  have hs1 := sgnd_b a.g hXb
  have hs2 := sgnd_b b.g hYb
  have hxb := hb.2.2
  obtain ⟨S, hS⟩ : ∃ S, sgnd a.g X + sgnd b.g b.n = S := ⟨_, rfl⟩
  have KO := Lib.hid (fun w => DOf_c S b.x w (by omega) (by omega))
  have hmk := sum_mk a.g b.g X b.n b.x
  have hme := sum_abs a.g b.g X b.n
  rw [hS] at hmk hme
  have hup : upN a b = X := by rw [upN_eq, ← hj, hX]
  have hD : mkD (decide (S < 0)) S.natAbs b.x = hiD a b := by rw [hiD_eq, hup]; exact hmk
  have hE : mkE S.natAbs b.x = hiE a b := by rw [hiE_eq, hup, hme]
  unfold MkPost at KO
  rw [hD, hE] at KO
  have hw : IntKind.i64.wrap S = S := IntWalk.i64_in _ (by omega)
  have hw2 : wrap64 S = S := IntWalk.wrap64_in _ (by omega)
  have HD : (hiE a b == 0) = true ↔ hiE a b = 0 := beq_iff_eq
  clear hX hmk hme hup hD hE ha hb hna hnb c1 c2 hj
  generalize sgnd a.g X = s1 at *
  generalize sgnd b.g b.n = s2 at *
  have HDD := Lib.hid HD
  clear HD
  generalize hE9 : hiE a b = E at *
  have HE9 := Lib.hid hE9
  clear hE9
  generalize hh : hiD a b = D at *
  have HH := Lib.hid hh
  clear hh
  go_enter Tryz.func40, Tryz.ntmps40
  go_wp2_with fail
  refine (KA.out _).mono ?_
  rintro e w1 ⟨rfl, hb⟩
  have hsz : w.heap.size + 2 < w1.heap.size := by have := hb.size; simp at this; omega
  replace T0 := TB3 T0 hb
  obtain ⟨p0, p1, p2, p3, p4, p5, p6⟩ := T0.2.1.facts
  obtain ⟨q0, q1, q2, q3, q4, q5, q6⟩ := T0.2.2.facts
  go_wp2_with fail
  refine (KB.out _).mono ?_
  rintro e w2 ⟨rfl, hbb2⟩
  replace T0 := T0.step hbb2
  have hb3 := hb.trans (hbb2.mono hb.size)
  clear hb hbb2 p0 p1 p2 p3 p4 p5 p6 q0 q1 q2 q3 q4 q5 q6
  go_wp2_with (first
    | (go_at_call 72; (with_reducible refine (KLa.out _).mono ?_); rintro e w' ⟨rfl, rfl⟩)
    | (go_at_call 72; (with_reducible refine (KLb.out _).mono ?_); rintro e w' ⟨rfl, rfl⟩))
  have L0 := fun W (h : TB w ⟨a.g, natS a.n, a.x⟩ ⟨b.g, natS b.n, b.x⟩ W) => h.2.1.facts.2.1
  have L3 := fun W (h : TB w ⟨a.g, natS a.n, a.x⟩ ⟨b.g, natS b.n, b.x⟩ W) => h.2.2.facts.2.1
  go_region_held3 (TB w ⟨a.g, natS a.n, a.x⟩ ⟨b.g, natS b.n, b.x⟩) (first | assumption | exact TB.step (by assumption) (by assumption) | exact TB.drew (by assumption) | exact TB.drawn (by assumption) _)
    (first
      | (go_at_call 73; rw [HSH.out]; (with_reducible refine (KSa.out _).mono ?_); rintro e w' ⟨rfl, rfl⟩)
      | (go_at_call 73; (with_reducible refine (KSb.out _).mono ?_); rintro e w' ⟨rfl, rfl⟩))
  rename_i hHeld
  clear T0 L0 L3
  have T0 := hHeld
  clear hHeld
  have hb4 := hb3.drew
  clear hb3
  generalize w'.drew = w3 at *
  obtain ⟨p0, p1, p2, p3, p4, p5, p6⟩ := T0.2.1.facts
  obtain ⟨q0, q1, q2, q3, q4, q5, q6⟩ := T0.2.2.facts
  go_wp2_with fail
  refine (KO.out _).mono ?_
  rintro e w4 ⟨rfl, hb5⟩
  replace T0 := T0.step hb5
  have hb6 := (hb4.trans (hb5.mono hb4.size)).alloc (hb4.trans (hb5.mono hb4.size)).size (.cells #[.bool D.g, .string (natS D.n), .int .i64 D.x] 24)
  have hb7 := (T0.more (.cells #[.bool D.g, .string (natS D.n), .int .i64 D.x] 24)).1
  clear hb4 hb5 p0 p1 p2 p3 p4 p5 p6 q0 q1 q2 q3 q4 q5 q6
  obtain ⟨hcl, hfz⟩ := bcell hb6
  have hsz2 : w.heap.size + 2 < w4.heap.size + 1 := by have := hb6.size; simp at this; omega
  unfold Dy.v
  by_cases hE0 : E = 0
  · subst hE0
    go_wp2_with fail
    refine bodyPost_ret (v := .tuple #[.agg #[.bool D.g, .string (natS D.n), .int .i64 D.x], .bool true]) (by simp [results, Tryz.results40, go_sem, hcl, hsz, hsz2]) rfl ⟨D, true, rfl, fun _ => ⟨HH.out.symm, HE9.out⟩, ?_⟩
    repeat (refine Below.setCell ?_ (by simp; omega) _)
    exact hb7
  · have hE1 : (E == 0) = false := by rw [beq_eq_false_iff_ne]; exact hE0
    go_wp2_with fail
    refine bodyPost_ret (v := .tuple #[.agg #[.bool D.g, .string (natS D.n), .int .i64 D.x], .bool false]) (by simp [results, Tryz.results40, go_sem, hcl, hsz, hsz2]) rfl ⟨D, false, rfl, fun c => (by cases c), ?_⟩
    repeat (refine Below.setCell ?_ (by simp; omega) _)
    exact hb7
end Go.Proofs.YtjalpocjgpgcfaaGreatDoor
set_option linter.unusedSimpArgs false
set_option linter.unusedVariables false
namespace Go.Proofs.YtjalpocjgpgcfaaGreatDoor
open Go Go.RowKit Nt

theorem Dbrief_c (a b : Dy) (j : Nat) (w : World) (ha : a.Num) (hb : b.Num) (hj : j = (a.x - b.x).toNat) (hj2 : j ≤ 3000000) :
    Calls Tryz.prog 40 #[.agg #[.bool a.g, .string (natS a.n), .int .i64 a.x], .agg #[.bool b.g, .string (natS b.n), .int .i64 b.x], .int .i64 (j : Nat)] w (BrPost a b w) := by
  cases c1 : brB a.n with
  | false => exact Dbrief_no a b j w ha hb hj2 (Or.inl c1)
  | true =>
    cases c2 : brB b.n with
    | false => exact Dbrief_no a b j w ha hb hj2 (Or.inr (Or.inl ⟨c1, c2⟩))
    | true =>
      by_cases c3 : 62 < j
      · exact Dbrief_no a b j w ha hb hj2 (Or.inr (Or.inr (Or.inl ⟨c1, c2, c3⟩)))
      · by_cases c4 : 62 < nd 2 a.n + j
        · exact Dbrief_no a b j w ha hb hj2 (Or.inr (Or.inr (Or.inr (Or.inl ⟨c1, c2, c3, c4⟩))))
        · by_cases c5 : 62 < nd 2 b.n
          · exact Dbrief_no a b j w ha hb hj2 (Or.inr (Or.inr (Or.inr (Or.inr ⟨c1, c2, c3, c4, c5⟩))))
          · exact Dbrief_yes a b j w ha hb hj c1 c2 c3 c4 c5
/-- From w on: two Dyads in boxes, and a third box for what is answered. -/
def TC (w : World) (a b : Dt) (W : World) : Prop := TB w a b W ∧ Box3 W (w.heap.size + 2) (.bool false) (.string ⟨#[]⟩) (.int .i64 0)
theorem TC.start (w : World) (a b : Dt) : TC w a b (((w.alloc (.cells #[.bool a.g, .string a.s, .int .i64 a.x] 24)).alloc (.cells #[.bool b.g, .string b.s, .int .i64 b.x] 24)).alloc (.cells #[.bool false, .string ⟨#[]⟩, .int .i64 0] 24)) := by
  refine ⟨(TB.start w a b).more _, ?_⟩
  have := Box3.new ((w.alloc (.cells #[.bool a.g, .string a.s, .int .i64 a.x] 24)).alloc (.cells #[.bool b.g, .string b.s, .int .i64 b.x] 24)) (.bool false) (.string ⟨#[]⟩) (.int .i64 0)
  simpa using this
theorem TC.step {w : World} {a b : Dt} {W W' : World} (h : TC w a b W) (hb : Below W.heap.size W W') : TC w a b W' := ⟨h.1.step hb, h.2.step hb⟩
theorem TC.more {w : World} {a b : Dt} {W : World} (h : TC w a b W) (o : Obj) : TC w a b (W.alloc o) := h.step ((Below.refl _ _).alloc (Nat.le_refl _) _)
theorem TC.drawn {w : World} {a b : Dt} {W : World} (h : TC w a b W) (n : Nat) : TC w a b (W.drewN n) := h.step (below_drewN (Below.refl _ _) n)
theorem TC.drew {w : World} {a b : Dt} {W : World} (h : TC w a b W) : TC w a b W.drew := h.step (Below.refl _ _).drew
theorem TC.fin {w : World} {a b : Dt} {W : World} (h : TC w a b W) (x y z : Value) : Below w.heap.size w (((W.setCell ⟨w.heap.size + 2, 0, none⟩ x).setCell ⟨w.heap.size + 2, 1, none⟩ y).setCell ⟨w.heap.size + 2, 2, none⟩ z) := below_put h.1.1 (by omega) x y z
set_option maxRecDepth 100000 in
set_option maxHeartbeats 2000000 in
theorem DAdd_bad (a b : Dt) (w : World) (ha : a.s.size ≤ 9223372036854775807) (hb : b.s.size ≤ 9223372036854775807) (hn : ¬ (a.Ok ∧ b.Ok)) :
    Calls Tryz.prog 20 #[.agg #[.bool a.g, .string a.s, .int .i64 a.x], .agg #[.bool b.g, .string b.s, .int .i64 b.x]] w fun e w' => e = .returned (.tuple #[.agg #[.bool false, .string ⟨#[]⟩, .int .i64 0], .int .i64 2]) ∧ Below w.heap.size w w' := by
  have he : dE [a, b] = 2 := by
    by_cases h : a.Ok
    · exact dE_no (t := b) (by simp) (fun c => hn ⟨h, c⟩)
    · exact dE_no (t := a) (by simp) h
  have KA := Lib.hid (fun W T A hA => Dall2 a b W T A hA ha hb)
  rw [he] at KA
  have T0 := TC.start w a b
  clear ha hb hn he
  go_enter Tryz.func20, Tryz.ntmps20
  go_wp2_with fail
  refine (KA.out _ _ _ (by simp)).mono ?_
  rintro e w1 ⟨rfl, hb⟩
  replace T0 := (T0.more _).step hb
  clear hb
  obtain ⟨r0, r1, r2, r3, r4, r5, r6⟩ := T0.2.facts
  go_wp2_with fail
  refine bodyPost_ret (v := .tuple #[.agg #[.bool false, .string ⟨#[]⟩, .int .i64 0], .int .i64 2]) (by simp [results, Tryz.results20, go_sem, r0, r1, r2, r3]) rfl ⟨rfl, ?_⟩
  repeat (refine Below.setCell ?_ (by simp; omega) _)
  exact T0.1.1
theorem all_ok2 (a b : Dy) (ha : a.Ok) (hb : b.Ok) (W : World) (T : TypeId) (A : Nat) (hA : A = W.heap.size) :
    Calls Tryz.prog 39 #[.slice (some ⟨A, 0, none⟩) 2 2] (W.alloc (.cells #[.bool a.g, .string (natS a.n), .int .i64 a.x, .bool b.g, .string (natS b.n), .int .i64 b.x] T)) fun e w' => e = .returned (.int .i64 0) ∧ Below (W.alloc (.cells #[.bool a.g, .string (natS a.n), .int .i64 a.x, .bool b.g, .string (natS b.n), .int .i64 b.x] T)).heap.size (W.alloc (.cells #[.bool a.g, .string (natS a.n), .int .i64 a.x, .bool b.g, .string (natS b.n), .int .i64 b.x] T)) w' := by
  have := Dall2 a.t b.t W T A hA (by have := Dy.small ha; show (natS a.n).size ≤ _; omega) (by have := Dy.small hb; show (natS b.n).size ≤ _; omega)
  rwa [dE_ok (fun t ht => by
    rcases List.mem_cons.1 ht with rfl | ht
    · exact Dy.ok_t ha
    · rw [List.mem_singleton.1 ht]; exact Dy.ok_t hb)] at this
set_option maxRecDepth 100000 in
set_option maxHeartbeats 2000000 in
theorem DAdd_zl (b : Dy) (w : World) (hb : b.Ok) :
    Calls Tryz.prog 20 #[.agg #[.bool false, .string ⟨#[]⟩, .int .i64 0], .agg #[.bool b.g, .string (natS b.n), .int .i64 b.x]] w fun e w' => e = .returned (.tuple #[.agg #[.bool b.g, .string (natS b.n), .int .i64 b.x], .int .i64 0]) ∧ Below w.heap.size w w' := by
  have KA := Lib.hid (fun W T A hA => all_ok2 Dy.zero b (Or.inl rfl) hb W T A hA)
  simp only [Dy.zero, natS_zero] at KA
  have T0 := TC.start w ⟨false, ⟨#[]⟩, 0⟩ b.t
  unfold Dy.t at T0
  clear hb
  go_enter Tryz.func20, Tryz.ntmps20
  go_wp2_with fail
  refine (KA.out _ _ _ (by simp)).mono ?_
  rintro e w1 ⟨rfl, hb⟩
  replace T0 := (T0.more _).step hb
  clear hb
  obtain ⟨p0, p1, p2, p3, p4, p5, p6⟩ := T0.1.2.1.facts
  obtain ⟨q0, q1, q2, q3, q4, q5, q6⟩ := T0.1.2.2.facts
  obtain ⟨r0, r1, r2, r3, r4, r5, r6⟩ := T0.2.facts
  go_wp2_with fail
  refine bodyPost_ret (v := .tuple #[.agg #[.bool b.g, .string (natS b.n), .int .i64 b.x], .int .i64 0]) (by simp [results, Tryz.results20, go_sem, r0, r1, r2, r3]) rfl ⟨rfl, ?_⟩
  repeat (refine Below.setCell ?_ (by simp; omega) _)
  exact T0.1.1
set_option maxRecDepth 100000 in
set_option maxHeartbeats 2000000 in
theorem DAdd_zr (a : Dy) (w : World) (ha : a.Num) :
    Calls Tryz.prog 20 #[.agg #[.bool a.g, .string (natS a.n), .int .i64 a.x], .agg #[.bool false, .string ⟨#[]⟩, .int .i64 0]] w fun e w' => e = .returned (.tuple #[.agg #[.bool a.g, .string (natS a.n), .int .i64 a.x], .int .i64 0]) ∧ Below w.heap.size w w' := by
  have KA := Lib.hid (fun W T A hA => all_ok2 a Dy.zero (Or.inr ha) (Or.inl rfl) W T A hA)
  simp only [Dy.zero, natS_zero] at KA
  have T0 := TC.start w a.t ⟨false, ⟨#[]⟩, 0⟩
  unfold Dy.t at T0
  have hE := natS_full (odd_ne ha.2.1)
  have hE2 := natS_full2 (odd_ne ha.2.1)
  clear ha
  go_enter Tryz.func20, Tryz.ntmps20
  go_wp2_with fail
  refine (KA.out _ _ _ (by simp)).mono ?_
  rintro e w1 ⟨rfl, hb⟩
  replace T0 := (T0.more _).step hb
  clear hb
  obtain ⟨p0, p1, p2, p3, p4, p5, p6⟩ := T0.1.2.1.facts
  obtain ⟨q0, q1, q2, q3, q4, q5, q6⟩ := T0.1.2.2.facts
  obtain ⟨r0, r1, r2, r3, r4, r5, r6⟩ := T0.2.facts
  go_wp2_with fail
  refine bodyPost_ret (v := .tuple #[.agg #[.bool a.g, .string (natS a.n), .int .i64 a.x], .int .i64 0]) (by simp [results, Tryz.results20, go_sem, r0, r1, r2, r3]) rfl ⟨rfl, ?_⟩
  repeat (refine Below.setCell ?_ (by simp; omega) _)
  exact T0.1.1
end Go.Proofs.YtjalpocjgpgcfaaGreatDoor
set_option linter.unusedSimpArgs false
set_option linter.unusedVariables false
namespace Go.Proofs.YtjalpocjgpgcfaaGreatDoor
open Go Go.RowKit Nt

theorem TC.swap {w : World} {a b : Dt} {W : World} (h : TC w a b W) : TC w b a ((((((W.setCell ⟨w.heap.size, 0, none⟩ (.bool b.g)).setCell ⟨w.heap.size, 1, none⟩ (.string b.s)).setCell ⟨w.heap.size, 2, none⟩ (.int .i64 b.x)).setCell ⟨w.heap.size + 1, 0, none⟩ (.bool a.g)).setCell ⟨w.heap.size + 1, 1, none⟩ (.string a.s)).setCell ⟨w.heap.size + 1, 2, none⟩ (.int .i64 a.x)) := by
  obtain ⟨⟨h1, h2, h3⟩, h4⟩ := h
  refine ⟨⟨below_put (below_put h1 (Nat.le_refl _) _ _ _) (by omega) _ _ _, ?_, ?_⟩, ?_⟩
  · exact Box3.far (h2.put _ _ _) (by omega) _ _ _
  · exact Box3.put (Box3.far h3 (by omega) _ _ _) _ _ _
  · exact Box3.far (Box3.far h4 (by omega) _ _ _) (by omega) _ _ _
/-- Too far apart. -/
theorem hi_long {p q : Dy} (hp : p.Num) (hq : q.Num) (hx : 131072 < p.x - q.x) : hiD p q = Dy.zero ∧ hiE p q = 4 := by
  obtain ⟨j, hj⟩ : ∃ j, j = (p.x - q.x).toNat := ⟨_, rfl⟩
  obtain ⟨E, hE⟩ : ∃ E, E = 131072 := ⟨_, rfl⟩
  have hj2 : E + 1 ≤ j := by omega
  have hup : upN p q = p.n * 2 ^ j := by rw [upN_eq, ← hj]
  have hy : q.n < 2 ^ E := (lt_pow_iff (b := 2) (by omega) E q.n).2 (by rw [hE]; exact bits_131072' hq.1)
  have hX : 2 ^ (E + 1) ≤ upN p q := by
    rw [hup]
    exact Nat.le_trans (Nat.pow_le_pow_right (by omega) hj2) (Nat.le_mul_of_pos_left _ (Nat.pos_of_ne_zero (odd_ne hp.2.1)))
  have hev : upN p q % 2 = 0 := by
    rw [hup, show j = (j - 1) + 1 by omega, Nat.pow_succ, ← Nat.mul_assoc]; exact Nat.mul_mod_left _ _
  have hqo := hq.2.1
  rw [Nat.pow_succ] at hX
  have hbig : ∀ N, nd 2 N ≤ 131072 → N < 2 ^ E := fun N h => (lt_pow_iff (b := 2) (by omega) E N).2 (by omega)
  generalize (2 : Nat) ^ E = P at *
  clear hE hj2 hj
  have key : ∀ N, N % 2 = 1 → P ≤ N → ¬ mkOk3 N q.x := by
    intro N ho hN hk
    rcases hk with hk | ⟨hk, _⟩
    · exact odd_ne ho hk
    · rw [odN_odd ho] at hk
      have h2 := hbig N (bits_131072' hk)
      omega
  have hN : ¬ mkOk3 (sumN p.g q.g (upN p q) q.n) q.x := by
    unfold sumN
    split
    · exact key _ (by omega) (by omega)
    · rw [if_neg (by omega)]
      exact key _ (by omega) (by omega)
  exact ⟨by rw [hiD_eq, mkD_no hN], by rw [hiE_eq, mkE_no hN]⟩
theorem hi_same {p q : Dy} (h : p.g = q.g) (X : Nat) (hX : upN p q = X) : hiD p q = mkD p.g (X + q.n) q.x ∧ hiE p q = mkE (X + q.n) q.x := by
  rw [hiD_eq, hiE_eq, hX]; unfold sumG sumN; rw [if_pos h, if_pos h]; exact ⟨rfl, rfl⟩
theorem hi_lt {p q : Dy} (h : ¬ p.g = q.g) (X : Nat) (hX : upN p q = X) (hl : X < q.n) : hiD p q = mkD q.g (q.n - X) q.x ∧ hiE p q = mkE (q.n - X) q.x := by
  rw [hiD_eq, hiE_eq, hX]; unfold sumG sumN; rw [if_neg h, if_neg h, if_pos hl, if_pos hl]; exact ⟨rfl, rfl⟩
theorem hi_ge {p q : Dy} (h : ¬ p.g = q.g) (X : Nat) (hX : upN p q = X) (hl : ¬ X < q.n) : hiD p q = mkD p.g (X - q.n) q.x ∧ hiE p q = mkE (X - q.n) q.x := by
  rw [hiD_eq, hiE_eq, hX]; unfold sumG sumN; rw [if_neg h, if_neg h, if_neg hl, if_neg hl]; exact ⟨rfl, rfl⟩
theorem read_nat (n : Nat) (w : World) (hf : fits n) : Calls Tryz.prog 42 #[.string (natS n)] w (NumPost n w) := by
  have := Read_c (natS n) w (by rw [natS_size]; unfold fits at hf; omega)
  rwa [bytesN_natS] at this
theorem fits_W {n : Nat} (h : fits n) : nd W n ≤ 2048 := by
  have := words_bytes n
  unfold fits at h
  omega
end Go.Proofs.YtjalpocjgpgcfaaGreatDoor
set_option linter.unusedSimpArgs false
set_option linter.unusedVariables false
namespace Go.Proofs.YtjalpocjgpgcfaaGreatDoor
open Go Go.RowKit Nt

/-- As TC, whatever stands in the third box. -/
def TD (w : World) (a b : Dt) (W : World) : Prop := TB w a b W ∧ ∃ x y z, Box3 W (w.heap.size + 2) x y z
theorem TD.step {w : World} {a b : Dt} {W W' : World} (h : TD w a b W) (hb : Below W.heap.size W W') : TD w a b W' := by
  obtain ⟨h1, x, y, z, h2⟩ := h; exact ⟨h1.step hb, x, y, z, h2.step hb⟩
theorem TD.drawn {w : World} {a b : Dt} {W : World} (h : TD w a b W) (n : Nat) : TD w a b (W.drewN n) := h.step (below_drewN (Below.refl _ _) n)
theorem TD.drew {w : World} {a b : Dt} {W : World} (h : TD w a b W) : TD w a b W.drew := h.step (Below.refl _ _).drew
theorem TC.td {w : World} {a b : Dt} {W : World} (h : TC w a b W) : TD w a b W := ⟨h.1, _, _, _, h.2⟩
theorem TD.put {w : World} {a b : Dt} {W : World} (h : TD w a b W) (x y z : Value) : TD w a b (((W.setCell ⟨w.heap.size + 2, 0, none⟩ x).setCell ⟨w.heap.size + 2, 1, none⟩ y).setCell ⟨w.heap.size + 2, 2, none⟩ z) := by
  obtain ⟨⟨h1, h2, h3⟩, x', y', z', h4⟩ := h
  exact ⟨⟨below_put h1 (by omega) _ _ _, h2.far (by omega) _ _ _, h3.far (by omega) _ _ _⟩, _, _, _, h4.put _ _ _⟩
theorem TD.res {w : World} {a b : Dt} {W : World} (h : TD w a b W) : w.heap.size + 2 < W.heap.size ∧ (W.cell? ⟨w.heap.size + 2, 0, none⟩).isSome = true ∧ (W.cell? ⟨w.heap.size + 2, 1, none⟩).isSome = true ∧ (W.cell? ⟨w.heap.size + 2, 2, none⟩).isSome = true ∧ W.frozen? ⟨w.heap.size + 2, 0, none⟩ = false ∧ W.frozen? ⟨w.heap.size + 2, 1, none⟩ = false ∧ W.frozen? ⟨w.heap.size + 2, 2, none⟩ = false := by
  obtain ⟨h1, x, y, z, h4⟩ := h
  obtain ⟨r0, r1, r2, r3, r4, r5, r6⟩ := h4.facts
  exact ⟨r0, by rw [r1]; rfl, by rw [r2]; rfl, by rw [r3]; rfl, r4, r5, r6⟩
/-- What stands in a cell. -/
@[irreducible] def cellAt (W : World) (B i : Nat) : Value := (W.cell? ⟨B, i, none⟩).getD undef
theorem cellAt_eq {W : World} {B i : Nat} {v : Value} (h : W.cell? ⟨B, i, none⟩ = some v) : W.cell? ⟨B, i, none⟩ = some (cellAt W B i) := by unfold cellAt; rw [h]; rfl
theorem TD.cells {w : World} {a b : Dt} {W : World} (h : TD w a b W) : w.heap.size + 2 < W.heap.size ∧ W.cell? ⟨w.heap.size + 2, 0, none⟩ = some (cellAt W (w.heap.size + 2) 0) ∧ W.cell? ⟨w.heap.size + 2, 1, none⟩ = some (cellAt W (w.heap.size + 2) 1) ∧ W.cell? ⟨w.heap.size + 2, 2, none⟩ = some (cellAt W (w.heap.size + 2) 2) ∧ W.frozen? ⟨w.heap.size + 2, 0, none⟩ = false ∧ W.frozen? ⟨w.heap.size + 2, 1, none⟩ = false ∧ W.frozen? ⟨w.heap.size + 2, 2, none⟩ = false := by
  obtain ⟨h1, x, y, z, h4⟩ := h
  obtain ⟨r0, r1, r2, r3, r4, r5, r6⟩ := h4.facts
  exact ⟨r0, cellAt_eq r1, cellAt_eq r2, cellAt_eq r3, r4, r5, r6⟩
theorem nd_addW {x y m : Nat} (hx : nd W x ≤ m) (hy : nd W y ≤ m) : nd W (x + y) ≤ m + 1 := by
  refine nd_le W2 ?_
  have h1 := (lt_pow_iff W2 m x).2 hx
  have h2 := (lt_pow_iff W2 m y).2 hy
  rw [Nat.pow_succ]
  have h4 := Nat.mul_le_mul_left (W ^ m) W2
  omega
set_option maxRecDepth 100000 in
set_option maxHeartbeats 4000000 in
theorem DAdd_num (a b : Dy) (w : World) (ha : a.Num) (hb : b.Num) (hG : Globs glT w) :
    Calls Tryz.prog 20 #[.agg #[.bool a.g, .string (natS a.n), .int .i64 a.x], .agg #[.bool b.g, .string (natS b.n), .int .i64 b.x]] w fun e w' => e = .returned (.tuple #[(addD a b).v, .int .i64 (addE a b)]) ∧ Below w.heap.size w w' := by
  have KA := Lib.hid (fun W T A hA => all_ok2 a b (Or.inr ha) (Or.inr hb) W T A hA)
  have T0 := TC.start w a.t b.t
  have hsw : ∃ p q : Dy, p.Num ∧ q.Num ∧ q.x ≤ p.x ∧ Hid (addD a b = hiD p q ∧ addE a b = hiE p q) ∧ ((a.x < b.x ∧ p = b ∧ q = a) ∨ (¬ a.x < b.x ∧ p = a ∧ q = b)) := by
    by_cases h : a.x < b.x
    · exact ⟨b, a, hb, ha, by omega, Lib.hid (add_lt (odd_ne ha.2.1) (odd_ne hb.2.1) h), Or.inl ⟨h, rfl, rfl⟩⟩
    · exact ⟨a, b, ha, hb, by omega, Lib.hid (add_ge (odd_ne ha.2.1) (odd_ne hb.2.1) h), Or.inr ⟨h, rfl, rfl⟩⟩
  obtain ⟨p, q, hp, hq, hle, HADD, hsw⟩ := hsw
  clear ha hb
  obtain ⟨j, hj⟩ : ∃ j, j = (p.x - q.x).toNat := ⟨_, rfl⟩
  have hpx := hp.2.2
  have hqx := hq.2.2
  have hjx : p.x - q.x = (j : Int) := by omega
  have KB := Lib.hid (fun w => Dbrief_c p q j w hp hq hj (by omega))
  have hEp := natS_full (odd_ne hp.2.1)
  have hEp2 := natS_full2 (odd_ne hp.2.1)
  have hEq := natS_full (odd_ne hq.2.1)
  have hEq2 := natS_full2 (odd_ne hq.2.1)
  have HTB := Lib.hid (fun W (h : TC w p.t q.t W) => tabs_of (hG.below h.1.1 (Nat.le_refl _)))
  have HGG := Lib.hid hG
  have HP := Lib.hid hp
  have HQ := Lib.hid hq
  have HJ := Lib.hid hj
  clear hp hq hG hj
  rcases hsw with ⟨hlt, h1, h2⟩ | ⟨hlt, h1, h2⟩
  case' inl =>
    subst h1 h2
    unfold Dy.t at T0
    go_enter Tryz.func20, Tryz.ntmps20
    go_wp2_with fail
    refine (KA.out _ _ _ (by simp)).mono ?_
    rintro e w1 ⟨rfl, hb⟩
    replace T0 := (T0.more _).step hb
    clear hb
    obtain ⟨p0, p1, p2, p3, p4, p5, p6⟩ := T0.1.2.1.facts
    obtain ⟨q0, q1, q2, q3, q4, q5, q6⟩ := T0.1.2.2.facts
    go_wp2_with fail
    refine (KB.out _).mono ?_
    rintro e w2 ⟨D, ok, rfl, hok, hb⟩
    replace T0 := (TC.swap T0).step hb
    clear hb p0 p1 p2 p3 p4 p5 p6 q0 q1 q2 q3 q4 q5 q6
  case' inr =>
    subst h1 h2
    unfold Dy.t at T0
    go_enter Tryz.func20, Tryz.ntmps20
    go_wp2_with fail
    refine (KA.out _ _ _ (by simp)).mono ?_
    rintro e w1 ⟨rfl, hb⟩
    replace T0 := (T0.more _).step hb
    clear hb
    obtain ⟨p0, p1, p2, p3, p4, p5, p6⟩ := T0.1.2.1.facts
    obtain ⟨q0, q1, q2, q3, q4, q5, q6⟩ := T0.1.2.2.facts
    go_wp2_with fail
    refine (KB.out _).mono ?_
    rintro e w2 ⟨D, ok, rfl, hok, hb⟩
    replace T0 := T0.step hb
    clear hb p0 p1 p2 p3 p4 p5 p6 q0 q1 q2 q3 q4 q5 q6
  all_goals
    have hok2 := Lib.hid hok
    clear hok
    cases ok
    case' true =>
      have hDD := hok2.out rfl
      have HDD := Lib.hid hDD
      clear hDD hok2
      replace T0 := T0.more (.cells #[.bool D.g, .string (natS D.n), .int .i64 D.x] 24)
      obtain ⟨r0, r1, r2, r3, r4, r5, r6⟩ := T0.2.facts
      go_wp2_with fail
      refine bodyPost_ret (v := .tuple #[.agg #[.bool D.g, .string (natS D.n), .int .i64 D.x], .int .i64 0]) (by simp [results, Tryz.results20, go_sem, r0, r1, r2, r3]) rfl ⟨?_, ?_⟩
      · rw [HADD.out.1, HADD.out.2, ← HDD.out.1, HDD.out.2]; rfl
      · repeat (refine Below.setCell ?_ (by simp; omega) _)
        exact T0.1.1
  all_goals
    clear hok2
    have T1 : TC w p.t q.t _ := (T0.more (.cells #[.bool D.g, .string (natS D.n), .int .i64 D.x] 24))
    have HT0 := Lib.hid T0
    clear T0
    by_cases hlong : 131072 < j
    case' pos =>
      have hL := hi_long HP.out HQ.out (by omega)
      have HL := Lib.hid hL
      clear hL
      obtain ⟨r0, r1, r2, r3, r4, r5, r6⟩ := (HT0.out.more (.cells #[.bool D.g, .string (natS D.n), .int .i64 D.x] 24)).2.facts
      go_wp2_with fail
      refine bodyPost_ret (v := .tuple #[.agg #[.bool false, .string ⟨#[]⟩, .int .i64 0], .int .i64 4]) (by simp [results, Tryz.results20, go_sem, r0, r1, r2, r3]) rfl ⟨?_, ?_⟩
      · rw [HADD.out.1, HADD.out.2, HL.out.1, HL.out.2, Dy.zero_v]
      · repeat (refine Below.setCell ?_ (by simp; omega) _)
        exact T1.1.1
  all_goals
    obtain ⟨X, hX⟩ : ∃ X, X = p.n * 2 ^ j := ⟨_, rfl⟩
    have HUP := Lib.hid (show upN p q = X by rw [upN_eq, ← HJ.out, hX])
    have hfp := fits_W HP.out.1
    have hfq := fits_W HQ.out.1
    have hXW : nd W X ≤ 4097 := by
      have h1 := nd_mul_pow (j := j) (odd_ne HP.out.2.1)
      rw [← hX] at h1
      have h2 := bits_131072' HP.out.1
      exact (nd_pow (b := 2) (c := W) (e := 64) (by omega) (by omega) W_two X 4097).1 (by omega)
    have KRp := Lib.hid (fun w => read_nat p.n w HP.out.1)
    have KRq := Lib.hid (fun w => read_nat q.n w HQ.out.1)
    have KS : Hid (∀ (A : Option Addr) (c : Nat) (W' : World), Row W' W'.heap.size A p.n (nd W p.n) → Calls Tryz.prog 41 #[.slice A (nd W p.n) c, .int .i64 (j : Nat)] W' (NumPost X W')) := Lib.hid fun A c W' h => by
      rw [hX]; exact Shl_c A c p.n j W'.heap.size W' (by omega) h (Nat.le_refl _)
    clear hX
    have L0 : ∀ W, TC w p.t q.t W → W.cell? ⟨w.heap.size, 0, none⟩ = some (.bool p.g) := fun W h => h.1.2.1.facts.2.1
    have L1 : ∀ W, TC w p.t q.t W → W.cell? ⟨w.heap.size, 1, none⟩ = some (.string (natS p.n)) := fun W h => h.1.2.1.facts.2.2.1
    have L2 : ∀ W, TC w p.t q.t W → W.cell? ⟨w.heap.size, 2, none⟩ = some (.int .i64 p.x) := fun W h => h.1.2.1.facts.2.2.2.1
    have L3 : ∀ W, TC w p.t q.t W → W.cell? ⟨w.heap.size + 1, 0, none⟩ = some (.bool q.g) := fun W h => h.1.2.2.facts.2.1
    have L4 : ∀ W, TC w p.t q.t W → W.cell? ⟨w.heap.size + 1, 1, none⟩ = some (.string (natS q.n)) := fun W h => h.1.2.2.facts.2.2.1
    have L5 : ∀ W, TC w p.t q.t W → W.cell? ⟨w.heap.size + 1, 2, none⟩ = some (.int .i64 q.x) := fun W h => h.1.2.2.facts.2.2.2.1
    go_wp2_with fail
    go_region_held3 (TC w p.t q.t) (first | assumption | exact TC.step (by assumption) (by assumption) | exact TC.drew (by assumption) | exact TC.drawn (by assumption) _)
      (first
        | (go_at_call 41; (refine (KS.out _ _ _ (by assumption)).mono ?_); rintro e wb hnp2; obtain ⟨A2, c2, rfl, hc2, hr2, hb8⟩ := hnp2.get)
        | (go_at_call 42; (with_reducible refine (KRp.out _).mono ?_); rintro e wa hnp1; obtain ⟨A1, c1, rfl, hc1, hr1, hb7⟩ := hnp1.get)
        | (go_at_call 42; (with_reducible refine (KRq.out _).mono ?_); rintro e wc hnp3; obtain ⟨A3, c3, rfl, hc3, hr3, hb9⟩ := hnp3.get))
    rename_i hHeld
    have hx2 := (hr2.below hb9).more hb9.size
    have HX2 := Lib.hid hx2
    have HY2 := Lib.hid hr3
    have T2 := hHeld
    clear hHeld T1 HT0 hr1 hr2 hr3 hx2 hc1 hc2 hc3 hnp1 hnp2 hnp3 hb7 hb8 hb9
    have KF : Hid (∀ (g : Bool) (N : Nat) (A : Option Addr) (c : Nat) (W' : World), nd W N ≤ 10000 → Row W' W'.heap.size A N (nd W N) → Bt.Tabs W' → Calls Tryz.prog 43 #[.bool g, .slice A (nd W N) c, .int .i64 q.x] W' (MkPost g N q.x W')) := Lib.hid fun g N A c W' h1 h2 h3 => DFit_c g N q.x A c W'.heap.size W' h1 (by have := HQ.out.2.2; omega) h2 (Nat.le_refl _) h3
    obtain ⟨p0, p1, p2, p3, p4, p5, p6⟩ := T2.1.2.1.facts
    obtain ⟨q0, q1, q2, q3, q4, q5, q6⟩ := T2.1.2.2.facts
    replace p1 : wc.cell? ⟨w.heap.size, 0, none⟩ = some (.bool p.g) := p1
    replace q1 : wc.cell? ⟨w.heap.size + 1, 0, none⟩ = some (.bool q.g) := q1
    replace HTB : Hid (∀ W, TD w p.t q.t W → Bt.Tabs W) := Lib.hid fun W h => tabs_of (HGG.out.below h.1.1 (Nat.le_refl _))
    clear L0 L1 L2 L3 L4 L5
    by_cases hg : p.g = q.g
    case' pos =>
      have HNW : Hid (nd W (X + q.n) ≤ 10000) := Lib.hid (Nat.le_trans (nd_addW (x := X) (y := q.n) (m := 4097) (by omega) (by omega)) (by omega))
      have HRES := Lib.hid (hi_same hg X HUP.out)
      go_wp2_with fail
      clear p0 p1 p2 p3 p4 p5 p6 q0 q1 q2 q3 q4 q5 q6
      have T3 : TD w p.t q.t wc.drew := T2.drew.td
      have KO := Lib.hid (Add_c A2 A3 c2 c3 X q.n _ wc.drew (by omega) (by omega) (HX2.out.drewN 1) (HY2.out.drewN 1) (Nat.le_refl _))
      have M0 : ∀ W, TD w p.t q.t W → W.cell? ⟨w.heap.size, 0, none⟩ = some (.bool p.g) := fun W h => h.1.2.1.facts.2.1
      have M3 : ∀ W, TD w p.t q.t W → W.cell? ⟨w.heap.size + 1, 0, none⟩ = some (.bool q.g) := fun W h => h.1.2.2.facts.2.1
      have M5 : ∀ W, TD w p.t q.t W → W.cell? ⟨w.heap.size + 1, 2, none⟩ = some (.int .i64 q.x) := fun W h => h.1.2.2.facts.2.2.2.1
      have M6 := fun W (h : TD w p.t q.t W) => h.cells.2.1
      have M7 := fun W (h : TD w p.t q.t W) => h.cells.2.2.1
      have M8 := fun W (h : TD w p.t q.t W) => h.cells.2.2.2.1
      have M9 := fun W (h : TD w p.t q.t W) => h.cells.2.2.2.2.1
      have M10 := fun W (h : TD w p.t q.t W) => h.cells.2.2.2.2.2.1
      have M11 := fun W (h : TD w p.t q.t W) => h.cells.2.2.2.2.2.2
      go_region_held3 (TD w p.t q.t) (first | assumption | exact TD.step (by assumption) (by assumption) | exact TD.put (by assumption) _ _ _ | exact TD.drew (by assumption) | exact TD.drawn (by assumption) _)
        (first
          | (go_at_call 44; (refine KO.out.mono ?_); rintro e wd hnp4; obtain ⟨A4, c4, rfl, hc4, hr4, hb10⟩ := hnp4.get)
          | (go_at_call 43; (refine (KF.out _ _ _ _ _ HNW.out (by assumption) (HTB.out _ (by assumption))).mono ?_); rintro e we ⟨rfl, hb11⟩; have HSV := Lib.hid (TD.step (a := p.t) (b := q.t) (w := w) (by assumption) hb11); unfold Dy.v))
      obtain ⟨r0, r1, r2, r3, r4, r5, r6⟩ := HSV.out.cells
      have hfin := below_put HSV.out.1.1 (show w.heap.size ≤ w.heap.size + 2 by omega)
      clear T3 M0 M3 M5 M6 M7 M8 M9 M10 M11
      go_wp2_with fail
      refine bodyPost_ret (v := .tuple #[(mkD q.g (X + q.n) q.x).v, .int .i64 (mkE (X + q.n) q.x)]) (by simp [results, Tryz.results20, go_sem, r0, r1, r2, r3, Dy.v]) rfl ⟨?_, ?_⟩
      · rw [HADD.out.1, HADD.out.2, HRES.out.1, HRES.out.2, hg]
      · exact hfin _ _ _
    case' neg =>
      have hgb : (p.g == q.g) = false := beq_eq_false_iff_ne.2 hg
      have KC := Lib.hid (Cmp_c A2 A3 c2 c3 X q.n _ wc (by omega) (by omega) HX2.out HY2.out)
      go_wp2_with fail
      refine KC.out.mono ?_
      rintro e w6 ⟨rfl, nn, rfl⟩
      clear p0 p1 p2 p3 p4 p5 p6 q0 q1 q2 q3 q4 q5 q6
      by_cases hl : X < q.n
      case' pos =>
        have hcn := cmp_neg hl
        have HRES := Lib.hid (hi_lt hg X HUP.out hl)
        have HNW : Hid (nd W (q.n - X) ≤ 10000) := Lib.hid (Nat.le_trans (nd_mono W2 (Nat.sub_le _ _)) (by omega))
        generalize cmpN X q.n = cc at *
        go_wp2_with fail
        have T3 : TD w p.t q.t (wc.drewN nn).drew := (T2.drawn nn).drew.td
        have KO := Lib.hid (Sub_c A3 A2 c3 c2 q.n X _ (wc.drewN nn).drew (Nat.le_of_lt hl) (by omega) (HY2.out.drewN (nn + 1)) (HX2.out.drewN (nn + 1)) (Nat.le_refl _))
        have M0 : ∀ W, TD w p.t q.t W → W.cell? ⟨w.heap.size, 0, none⟩ = some (.bool p.g) := fun W h => h.1.2.1.facts.2.1
        have M3 : ∀ W, TD w p.t q.t W → W.cell? ⟨w.heap.size + 1, 0, none⟩ = some (.bool q.g) := fun W h => h.1.2.2.facts.2.1
        have M5 : ∀ W, TD w p.t q.t W → W.cell? ⟨w.heap.size + 1, 2, none⟩ = some (.int .i64 q.x) := fun W h => h.1.2.2.facts.2.2.2.1
        have M6 := fun W (h : TD w p.t q.t W) => h.cells.2.1
        have M7 := fun W (h : TD w p.t q.t W) => h.cells.2.2.1
        have M8 := fun W (h : TD w p.t q.t W) => h.cells.2.2.2.1
        have M9 := fun W (h : TD w p.t q.t W) => h.cells.2.2.2.2.1
        have M10 := fun W (h : TD w p.t q.t W) => h.cells.2.2.2.2.2.1
        have M11 := fun W (h : TD w p.t q.t W) => h.cells.2.2.2.2.2.2
        go_region_held3 (TD w p.t q.t) (first | assumption | exact TD.step (by assumption) (by assumption) | exact TD.put (by assumption) _ _ _ | exact TD.drew (by assumption) | exact TD.drawn (by assumption) _)
          (first
            | (go_at_call 46; (refine KO.out.mono ?_); rintro e wd hnp4; obtain ⟨A4, c4, rfl, hc4, hr4, hb10⟩ := hnp4.get)
            | (go_at_call 43; (refine (KF.out _ _ _ _ _ HNW.out (by assumption) (HTB.out _ (by assumption))).mono ?_); rintro e we ⟨rfl, hb11⟩; have HSV := Lib.hid (TD.step (a := p.t) (b := q.t) (w := w) (by assumption) hb11); unfold Dy.v))
        obtain ⟨r0, r1, r2, r3, r4, r5, r6⟩ := HSV.out.cells
        have hfin := below_put HSV.out.1.1 (show w.heap.size ≤ w.heap.size + 2 by omega)
        clear T3 M0 M3 M5 M6 M7 M8 M9 M10 M11
        go_wp2_with fail
        refine bodyPost_ret (v := .tuple #[(mkD q.g (q.n - X) q.x).v, .int .i64 (mkE (q.n - X) q.x)]) (by simp [results, Tryz.results20, go_sem, r0, r1, r2, r3, Dy.v]) rfl ⟨?_, ?_⟩
        · rw [HADD.out.1, HADD.out.2, HRES.out.1, HRES.out.2]
        · exact hfin _ _ _
      case' neg =>
        have hcn := cmp_pos (Nat.le_of_not_lt hl)
        have HRES := Lib.hid (hi_ge hg X HUP.out hl)
        have HNW : Hid (nd W (X - q.n) ≤ 10000) := Lib.hid (Nat.le_trans (nd_mono W2 (Nat.sub_le _ _)) (by omega))
        generalize cmpN X q.n = cc at *
        go_wp2_with fail
        have T3 : TD w p.t q.t (wc.drewN nn).drew := (T2.drawn nn).drew.td
        have KO := Lib.hid (Sub_c A2 A3 c2 c3 X q.n _ (wc.drewN nn).drew (Nat.le_of_not_lt hl) (by omega) (HX2.out.drewN (nn + 1)) (HY2.out.drewN (nn + 1)) (Nat.le_refl _))
        have M0 : ∀ W, TD w p.t q.t W → W.cell? ⟨w.heap.size, 0, none⟩ = some (.bool p.g) := fun W h => h.1.2.1.facts.2.1
        have M3 : ∀ W, TD w p.t q.t W → W.cell? ⟨w.heap.size + 1, 0, none⟩ = some (.bool q.g) := fun W h => h.1.2.2.facts.2.1
        have M5 : ∀ W, TD w p.t q.t W → W.cell? ⟨w.heap.size + 1, 2, none⟩ = some (.int .i64 q.x) := fun W h => h.1.2.2.facts.2.2.2.1
        have M6 := fun W (h : TD w p.t q.t W) => h.cells.2.1
        have M7 := fun W (h : TD w p.t q.t W) => h.cells.2.2.1
        have M8 := fun W (h : TD w p.t q.t W) => h.cells.2.2.2.1
        have M9 := fun W (h : TD w p.t q.t W) => h.cells.2.2.2.2.1
        have M10 := fun W (h : TD w p.t q.t W) => h.cells.2.2.2.2.2.1
        have M11 := fun W (h : TD w p.t q.t W) => h.cells.2.2.2.2.2.2
        go_region_held3 (TD w p.t q.t) (first | assumption | exact TD.step (by assumption) (by assumption) | exact TD.put (by assumption) _ _ _ | exact TD.drew (by assumption) | exact TD.drawn (by assumption) _)
          (first
            | (go_at_call 46; (refine KO.out.mono ?_); rintro e wd hnp4; obtain ⟨A4, c4, rfl, hc4, hr4, hb10⟩ := hnp4.get)
            | (go_at_call 43; (refine (KF.out _ _ _ _ _ HNW.out (by assumption) (HTB.out _ (by assumption))).mono ?_); rintro e we ⟨rfl, hb11⟩; have HSV := Lib.hid (TD.step (a := p.t) (b := q.t) (w := w) (by assumption) hb11); unfold Dy.v))
        obtain ⟨r0, r1, r2, r3, r4, r5, r6⟩ := HSV.out.cells
        have hfin := below_put HSV.out.1.1 (show w.heap.size ≤ w.heap.size + 2 by omega)
        clear T3 M0 M3 M5 M6 M7 M8 M9 M10 M11
        go_wp2_with fail
        refine bodyPost_ret (v := .tuple #[(mkD p.g (X - q.n) q.x).v, .int .i64 (mkE (X - q.n) q.x)]) (by simp [results, Tryz.results20, go_sem, r0, r1, r2, r3, Dy.v]) rfl ⟨?_, ?_⟩
        · rw [HADD.out.1, HADD.out.2, HRES.out.1, HRES.out.2]
        · exact hfin _ _ _
end Go.Proofs.YtjalpocjgpgcfaaGreatDoor
set_option linter.unusedSimpArgs false
set_option linter.unusedVariables false
namespace Go.Proofs.YtjalpocjgpgcfaaGreatDoor
open Go Go.RowKit Nt

set_option maxRecDepth 100000 in
set_option maxHeartbeats 2000000 in
theorem rAdd3_zl (b : Dy) (w : World) (g : Bool) (x : Int) :
    Calls Tryz.prog 63 #[.agg #[.bool g, .string ⟨#[]⟩, .int .i64 x], .agg #[.bool b.g, .string (natS b.n), .int .i64 b.x]] w fun e w' => e = .returned (.tuple #[.agg #[.bool b.g, .string (natS b.n), .int .i64 b.x], .int .i64 0]) ∧ Below w.heap.size w w' := by
  have T0 := TC.start w ⟨g, ⟨#[]⟩, x⟩ b.t
  unfold Dy.t at T0
  obtain ⟨r0, r1, r2, r3, r4, r5, r6⟩ := T0.2.facts
  go_enter Tryz.func63, Tryz.ntmps63
  go_wp2_with fail
  refine bodyPost_ret (v := .tuple #[.agg #[.bool b.g, .string (natS b.n), .int .i64 b.x], .int .i64 0]) (by simp [results, Tryz.results63, go_sem, r0, r1, r2, r3]) rfl ⟨rfl, ?_⟩
  repeat (refine Below.setCell ?_ (by simp; omega) _)
  first
    | exact T0.1.1
    | exact (((Below.refl _ _).alloc (Nat.le_refl _) _).alloc (by simp) _).alloc (by simp; omega) _
set_option maxRecDepth 100000 in
set_option maxHeartbeats 2000000 in
theorem rAdd3_zr (a : Dy) (w : World) (ha : a.n ≠ 0) (g : Bool) (x : Int) :
    Calls Tryz.prog 63 #[.agg #[.bool a.g, .string (natS a.n), .int .i64 a.x], .agg #[.bool g, .string ⟨#[]⟩, .int .i64 x]] w fun e w' => e = .returned (.tuple #[.agg #[.bool a.g, .string (natS a.n), .int .i64 a.x], .int .i64 0]) ∧ Below w.heap.size w w' := by
  have T0 := TC.start w a.t ⟨g, ⟨#[]⟩, x⟩
  unfold Dy.t at T0
  have hE := natS_full ha
  have hE2 := natS_full2 ha
  clear ha
  go_enter Tryz.func63, Tryz.ntmps63
  go_wp2_with fail
  refine bodyPost_ret (v := .tuple #[.agg #[.bool a.g, .string (natS a.n), .int .i64 a.x], .int .i64 0]) (by simp [results, Tryz.results63, go_sem]) rfl ⟨rfl, ?_⟩
  repeat (refine Below.setCell ?_ (by simp; omega) _)
  first
    | exact T0.1.1
    | exact (((Below.refl _ _).alloc (Nat.le_refl _) _).alloc (by simp) _).alloc (by simp; omega) _
theorem nd_add256 {x y m : Nat} (hx : nd 256 x ≤ m) (hy : nd 256 y ≤ m) : nd 256 (x + y) ≤ m + 1 := by
  refine nd_le (by omega) ?_
  have h1 := (lt_pow_iff (b := 256) (by omega) m x).2 hx
  have h2 := (lt_pow_iff (b := 256) (by omega) m y).2 hy
  rw [Nat.pow_succ]; omega
set_option maxRecDepth 100000 in
set_option maxHeartbeats 4000000 in
theorem rAdd3_ge (p q : Dy) (w : World) (hp : p.Num) (hq : q.Num) (hle : q.x ≤ p.x) :
    Calls Tryz.prog 63 #[.agg #[.bool p.g, .string (natS p.n), .int .i64 p.x], .agg #[.bool q.g, .string (natS q.n), .int .i64 q.x]] w fun e w' => e = .returned (.tuple #[(hiD p q).v, .int .i64 (hiE p q)]) ∧ Below w.heap.size w w' := by
  have T0 := TC.start w p.t q.t
  obtain ⟨j, hj⟩ : ∃ j, j = (p.x - q.x).toNat := ⟨_, rfl⟩
  have hpx := hp.2.2
  have hqx := hq.2.2
  have hjx : p.x - q.x = (j : Int) := by omega
  have hEp := natS_full (odd_ne hp.2.1)
  have hEp2 := natS_full2 (odd_ne hp.2.1)
  have hEq := natS_full (odd_ne hq.2.1)
  have hEq2 := natS_full2 (odd_ne hq.2.1)
  have HP := Lib.hid hp
  have HQ := Lib.hid hq
  have HJ := Lib.hid hj
  have hlt : ¬ p.x < q.x := by omega
  clear hp hq hj hle
  unfold Dy.t at T0
  obtain ⟨p0, p1, p2, p3, p4, p5, p6⟩ := T0.1.2.1.facts
  obtain ⟨q0, q1, q2, q3, q4, q5, q6⟩ := T0.1.2.2.facts
  obtain ⟨r0, r1, r2, r3, r4, r5, r6⟩ := T0.2.facts
  by_cases hlong : 131080 < j
  · have HL := Lib.hid (hi_long HP.out HQ.out (by omega))
    go_enter Tryz.func63, Tryz.ntmps63
    go_wp2_with fail
    refine bodyPost_ret (v := .tuple #[.agg #[.bool false, .string ⟨#[]⟩, .int .i64 0], .int .i64 4]) (by simp [results, Tryz.results63, go_sem, r0, r1, r2, r3]) rfl ⟨?_, ?_⟩
    · rw [HL.out.1, HL.out.2, Dy.zero_v]
    · repeat (refine Below.setCell ?_ (by simp; omega) _)
      first
        | exact T0.1.1
        | exact (((Below.refl _ _).alloc (Nat.le_refl _) _).alloc (by simp) _).alloc (by simp; omega) _
  · obtain ⟨X, hX⟩ : ∃ X, X = p.n * 2 ^ j := ⟨_, rfl⟩
    have HUP := Lib.hid (show upN p q = X by rw [upN_eq, ← HJ.out, hX])
    have hfp : nd 256 p.n ≤ 16384 := HP.out.1
    have hfq : nd 256 q.n ≤ 16384 := HQ.out.1
    have hXW : nd 256 X ≤ 40000 := by
      have h1 := nd_mul_pow (j := j) (odd_ne HP.out.2.1)
      rw [← hX] at h1
      have h2 := bits_131072' HP.out.1
      exact (bits_le X 40000).1 (by omega)
    have KRp := Lib.hid (fun w => rOf3_c p.n w (by omega))
    have KRq := Lib.hid (fun w => rOf3_c q.n w (by omega))
    have KS : Hid (∀ (B : Nat) (A : Option Addr) (c : Nat) (W' : World), Own W' B 3 .i64 (.slice A (nd 256 p.n) c) (dl 256 p.n (nd 256 p.n)) → Calls Tryz.prog 69 #[.slice A (nd 256 p.n) c, .int .i64 (j : Nat)] W' (BigP X W')) := Lib.hid fun B A c W' h => by
      rw [hX]; exact rShifted3_c p.n j B A c W' (by omega) (by omega) h
    clear hX
    have T1 : TC w p.t q.t _ := T0
    have L1 : ∀ W, TC w p.t q.t W → W.cell? ⟨w.heap.size, 1, none⟩ = some (.string (natS p.n)) := fun W h => h.1.2.1.facts.2.2.1
    have L4 : ∀ W, TC w p.t q.t W → W.cell? ⟨w.heap.size + 1, 1, none⟩ = some (.string (natS q.n)) := fun W h => h.1.2.2.facts.2.2.1
    go_enter Tryz.func63, Tryz.ntmps63
    go_wp2_with fail
    go_region_held3 (TC w p.t q.t) (first | assumption | exact TC.step (by assumption) (by assumption) | exact TC.drew (by assumption) | exact TC.drawn (by assumption) _)
      (first
        | (go_at_call 69; (refine (KS.out _ _ _ _ (by assumption)).mono ?_); rintro e wb ⟨A2, c2, rfl, hown2, hb8⟩)
        | (go_at_call 68; (with_reducible refine (KRp.out _).mono ?_); rintro e wa ⟨v1, rfl, hown1, hb7⟩; obtain ⟨A1, c1, rfl, hc1⟩ := hown1.len; rw [dl_length] at hown1 hc1 ⊢)
        | (go_at_call 68; (with_reducible refine (KRq.out _).mono ?_); rintro e wc ⟨v3, rfl, hown3, hb9⟩; obtain ⟨A3, c3, rfl, hc3⟩ := hown3.len; rw [dl_length] at hown3 hc3 ⊢))
    rename_i hHeld
    have HX2 := Lib.hid (hown2.whole hb9)
    have HY2 := Lib.hid hown3
    have T2 := hHeld
    clear hHeld T1 T0 hown1 hown2 hown3 hc1 hc3 hb7 hb8 hb9 L1 L4 p0 p1 p2 p3 p4 p5 p6 q0 q1 q2 q3 q4 q5 q6 r0 r1 r2 r3 r4 r5 r6
    have KF : Hid (∀ (g : Bool) (N : Nat) (B : Nat) (A : Option Addr) (c : Nat) (W' : World), nd 256 N ≤ 100000 → Own W' B 3 .i64 (.slice A (nd 256 N) c) (dl 256 N (nd 256 N)) → Calls Tryz.prog 103 #[.bool g, .slice A (nd 256 N) c, .int .i64 q.x] W' (MkPost g N q.x W')) := Lib.hid fun g N B A c W' h1 h2 => rFit3_c g N q.x B A c W' h1 (by have := HQ.out.2.2; omega) h2
    obtain ⟨p0, p1, p2, p3, p4, p5, p6⟩ := T2.1.2.1.facts
    obtain ⟨q0, q1, q2, q3, q4, q5, q6⟩ := T2.1.2.2.facts
    replace p1 : wc.cell? ⟨w.heap.size, 0, none⟩ = some (.bool p.g) := p1
    replace q1 : wc.cell? ⟨w.heap.size + 1, 0, none⟩ = some (.bool q.g) := q1
    by_cases hg : p.g = q.g
    · have HNW : Hid (nd 256 (X + q.n) ≤ 100000) := Lib.hid (Nat.le_trans (nd_add256 (x := X) (y := q.n) (m := 40000) (by omega) (by omega)) (by omega))
      have HRES := Lib.hid (hi_same hg X HUP.out)
      go_wp2_with fail
      clear p0 p1 p2 p3 p4 p5 p6 q0 q1 q2 q3 q4 q5 q6
      have T3 : TD w p.t q.t wc.drew := T2.drew.td
      have KO := Lib.hid (rPlus3_c X q.n _ _ A2 A3 c2 c3 wc.drew (by omega) (by omega) (HX2.out.drewN 1) (HY2.out.drewN 1))
      have M0 : ∀ W, TD w p.t q.t W → W.cell? ⟨w.heap.size, 0, none⟩ = some (.bool p.g) := fun W h => h.1.2.1.facts.2.1
      have M3 : ∀ W, TD w p.t q.t W → W.cell? ⟨w.heap.size + 1, 0, none⟩ = some (.bool q.g) := fun W h => h.1.2.2.facts.2.1
      have M5 : ∀ W, TD w p.t q.t W → W.cell? ⟨w.heap.size + 1, 2, none⟩ = some (.int .i64 q.x) := fun W h => h.1.2.2.facts.2.2.2.1
      have M6 := fun W (h : TD w p.t q.t W) => h.cells.2.1
      have M7 := fun W (h : TD w p.t q.t W) => h.cells.2.2.1
      have M8 := fun W (h : TD w p.t q.t W) => h.cells.2.2.2.1
      have M9 := fun W (h : TD w p.t q.t W) => h.cells.2.2.2.2.1
      have M10 := fun W (h : TD w p.t q.t W) => h.cells.2.2.2.2.2.1
      have M11 := fun W (h : TD w p.t q.t W) => h.cells.2.2.2.2.2.2
      go_region_held3 (TD w p.t q.t) (first | assumption | exact TD.step (by assumption) (by assumption) | exact TD.put (by assumption) _ _ _ | exact TD.drew (by assumption) | exact TD.drawn (by assumption) _)
        (first
          | (go_at_call 104; (refine KO.out.mono ?_); rintro e wd ⟨A4, c4, rfl, hown4, hb10⟩)
          | (go_at_call 103; (refine (KF.out _ _ _ _ _ _ HNW.out (by assumption)).mono ?_); rintro e we ⟨rfl, hb11⟩; have HSV := Lib.hid (TD.step (a := p.t) (b := q.t) (w := w) (by assumption) hb11); unfold Dy.v))
      obtain ⟨r0, r1, r2, r3, r4, r5, r6⟩ := HSV.out.cells
      have hfin := below_put HSV.out.1.1 (show w.heap.size ≤ w.heap.size + 2 by omega)
      clear T3 M0 M3 M5 M6 M7 M8 M9 M10 M11
      go_wp2_with fail
      refine bodyPost_ret (v := .tuple #[(mkD q.g (X + q.n) q.x).v, .int .i64 (mkE (X + q.n) q.x)]) (by simp [results, Tryz.results63, go_sem, r0, r1, r2, r3, Dy.v]) rfl ⟨?_, ?_⟩
      · rw [HRES.out.1, HRES.out.2, hg]
      · exact hfin _ _ _
    · have hgb : (p.g == q.g) = false := beq_eq_false_iff_ne.2 hg
      have KC := Lib.hid (rCmp3_c X q.n _ _ A2 A3 c2 c3 wc (by omega) (by omega) HX2.out HY2.out)
      go_wp2_with fail
      refine KC.out.mono ?_
      rintro e w6 ⟨rfl, nn, rfl⟩
      clear p0 p1 p2 p3 p4 p5 p6 q0 q1 q2 q3 q4 q5 q6
      by_cases hl : X < q.n
      · have hcn : ¬ (0 : Int) ≤ cmpN X q.n := by rw [cmpN_lt hl]; decide
        have HRES := Lib.hid (hi_lt hg X HUP.out hl)
        have HNW : Hid (nd 256 (q.n - X) ≤ 100000) := Lib.hid (Nat.le_trans (nd_mono (by omega) (Nat.sub_le _ _)) (by omega))
        generalize cmpN X q.n = cc at *
        go_wp2_with fail
        have T3 : TD w p.t q.t (wc.drewN nn).drew := (T2.drawn nn).drew.td
        have KO := Lib.hid (rMinus3_c q.n X _ _ A3 A2 c3 c2 (wc.drewN nn).drew (Nat.le_of_lt hl) (by omega) (HY2.out.drewN (nn + 1)) (HX2.out.drewN (nn + 1)))
        have M0 : ∀ W, TD w p.t q.t W → W.cell? ⟨w.heap.size, 0, none⟩ = some (.bool p.g) := fun W h => h.1.2.1.facts.2.1
        have M3 : ∀ W, TD w p.t q.t W → W.cell? ⟨w.heap.size + 1, 0, none⟩ = some (.bool q.g) := fun W h => h.1.2.2.facts.2.1
        have M5 : ∀ W, TD w p.t q.t W → W.cell? ⟨w.heap.size + 1, 2, none⟩ = some (.int .i64 q.x) := fun W h => h.1.2.2.facts.2.2.2.1
        have M6 := fun W (h : TD w p.t q.t W) => h.cells.2.1
        have M7 := fun W (h : TD w p.t q.t W) => h.cells.2.2.1
        have M8 := fun W (h : TD w p.t q.t W) => h.cells.2.2.2.1
        have M9 := fun W (h : TD w p.t q.t W) => h.cells.2.2.2.2.1
        have M10 := fun W (h : TD w p.t q.t W) => h.cells.2.2.2.2.2.1
        have M11 := fun W (h : TD w p.t q.t W) => h.cells.2.2.2.2.2.2
        go_region_held3 (TD w p.t q.t) (first | assumption | exact TD.step (by assumption) (by assumption) | exact TD.put (by assumption) _ _ _ | exact TD.drew (by assumption) | exact TD.drawn (by assumption) _)
          (first
            | (go_at_call 105; (refine KO.out.mono ?_); rintro e wd ⟨A4, c4, rfl, hown4, hb10⟩)
            | (go_at_call 103; (refine (KF.out _ _ _ _ _ _ HNW.out (by assumption)).mono ?_); rintro e we ⟨rfl, hb11⟩; have HSV := Lib.hid (TD.step (a := p.t) (b := q.t) (w := w) (by assumption) hb11); unfold Dy.v))
        obtain ⟨r0, r1, r2, r3, r4, r5, r6⟩ := HSV.out.cells
        have hfin := below_put HSV.out.1.1 (show w.heap.size ≤ w.heap.size + 2 by omega)
        clear T3 M0 M3 M5 M6 M7 M8 M9 M10 M11
        go_wp2_with fail
        refine bodyPost_ret (v := .tuple #[(mkD q.g (q.n - X) q.x).v, .int .i64 (mkE (q.n - X) q.x)]) (by simp [results, Tryz.results63, go_sem, r0, r1, r2, r3, Dy.v]) rfl ⟨?_, ?_⟩
        · rw [HRES.out.1, HRES.out.2]
        · exact hfin _ _ _
      · have hcn : (0 : Int) ≤ cmpN X q.n := by
          rcases Nat.eq_or_lt_of_le (Nat.le_of_not_lt hl) with h | h
          · rw [h, cmpN_eq]; decide
          · rw [cmpN_gt h]; decide
        have HRES := Lib.hid (hi_ge hg X HUP.out hl)
        have HNW : Hid (nd 256 (X - q.n) ≤ 100000) := Lib.hid (Nat.le_trans (nd_mono (by omega) (Nat.sub_le _ _)) (by omega))
        generalize cmpN X q.n = cc at *
        go_wp2_with fail
        have T3 : TD w p.t q.t (wc.drewN nn).drew := (T2.drawn nn).drew.td
        have KO := Lib.hid (rMinus3_c X q.n _ _ A2 A3 c2 c3 (wc.drewN nn).drew (Nat.le_of_not_lt hl) (by omega) (HX2.out.drewN (nn + 1)) (HY2.out.drewN (nn + 1)))
        have M0 : ∀ W, TD w p.t q.t W → W.cell? ⟨w.heap.size, 0, none⟩ = some (.bool p.g) := fun W h => h.1.2.1.facts.2.1
        have M3 : ∀ W, TD w p.t q.t W → W.cell? ⟨w.heap.size + 1, 0, none⟩ = some (.bool q.g) := fun W h => h.1.2.2.facts.2.1
        have M5 : ∀ W, TD w p.t q.t W → W.cell? ⟨w.heap.size + 1, 2, none⟩ = some (.int .i64 q.x) := fun W h => h.1.2.2.facts.2.2.2.1
        have M6 := fun W (h : TD w p.t q.t W) => h.cells.2.1
        have M7 := fun W (h : TD w p.t q.t W) => h.cells.2.2.1
        have M8 := fun W (h : TD w p.t q.t W) => h.cells.2.2.2.1
        have M9 := fun W (h : TD w p.t q.t W) => h.cells.2.2.2.2.1
        have M10 := fun W (h : TD w p.t q.t W) => h.cells.2.2.2.2.2.1
        have M11 := fun W (h : TD w p.t q.t W) => h.cells.2.2.2.2.2.2
        go_region_held3 (TD w p.t q.t) (first | assumption | exact TD.step (by assumption) (by assumption) | exact TD.put (by assumption) _ _ _ | exact TD.drew (by assumption) | exact TD.drawn (by assumption) _)
          (first
            | (go_at_call 105; (refine KO.out.mono ?_); rintro e wd ⟨A4, c4, rfl, hown4, hb10⟩)
            | (go_at_call 103; (refine (KF.out _ _ _ _ _ _ HNW.out (by assumption)).mono ?_); rintro e we ⟨rfl, hb11⟩; have HSV := Lib.hid (TD.step (a := p.t) (b := q.t) (w := w) (by assumption) hb11); unfold Dy.v))
        obtain ⟨r0, r1, r2, r3, r4, r5, r6⟩ := HSV.out.cells
        have hfin := below_put HSV.out.1.1 (show w.heap.size ≤ w.heap.size + 2 by omega)
        clear T3 M0 M3 M5 M6 M7 M8 M9 M10 M11
        go_wp2_with fail
        refine bodyPost_ret (v := .tuple #[(mkD p.g (X - q.n) q.x).v, .int .i64 (mkE (X - q.n) q.x)]) (by simp [results, Tryz.results63, go_sem, r0, r1, r2, r3, Dy.v]) rfl ⟨?_, ?_⟩
        · rw [HRES.out.1, HRES.out.2]
        · exact hfin _ _ _
end Go.Proofs.YtjalpocjgpgcfaaGreatDoor
set_option linter.unusedSimpArgs false
set_option linter.unusedVariables false
namespace Go.Proofs.YtjalpocjgpgcfaaGreatDoor
open Go Go.RowKit Nt

/-- What Add leaves. -/
def AddPost (a b : Dy) (w : World) (e : Ending) (w' : World) : Prop := e = .returned (.tuple #[(addD a b).v, .int .i64 (addE a b)]) ∧ Below w.heap.size w w'
theorem DAdd_c (a b : Dy) (w : World) (ha : a.Ok) (hb : b.Ok) (hG : Globs glT w) :
    Calls Tryz.prog 20 #[.agg #[.bool a.g, .string (natS a.n), .int .i64 a.x], .agg #[.bool b.g, .string (natS b.n), .int .i64 b.x]] w (AddPost a b w) := by
  unfold AddPost
  rcases ha with rfl | ha
  · rw [(add_zl (a := Dy.zero) (b := b) rfl).1, (add_zl (a := Dy.zero) (b := b) rfl).2]
    show Calls _ _ #[.agg #[.bool false, .string (natS 0), .int .i64 0], _] _ _
    rw [natS_zero]; exact DAdd_zl b w hb
  · rcases hb with rfl | hb
    · rw [(add_zr (a := a) (b := Dy.zero) (odd_ne ha.2.1) rfl).1, (add_zr (a := a) (b := Dy.zero) (odd_ne ha.2.1) rfl).2]
      show Calls _ _ #[_, .agg #[.bool false, .string (natS 0), .int .i64 0]] _ _
      rw [natS_zero]; exact DAdd_zr a w ha
    · exact DAdd_num a b w ha hb hG
set_option maxRecDepth 100000 in
set_option maxHeartbeats 2000000 in
theorem rAdd3_swap (a b : Dy) (w : World) (ha : a.Num) (hb : b.Num) (hlt : a.x < b.x) :
    Calls Tryz.prog 63 #[.agg #[.bool a.g, .string (natS a.n), .int .i64 a.x], .agg #[.bool b.g, .string (natS b.n), .int .i64 b.x]] w fun e w' => e = .returned (.tuple #[(hiD b a).v, .int .i64 (hiE b a)]) ∧ Below w.heap.size w w' := by
  have K := Lib.hid (fun w => rAdd3_ge b a w hb ha (by omega))
  have hEp := natS_full (odd_ne ha.2.1)
  have hEp2 := natS_full2 (odd_ne ha.2.1)
  have hEq := natS_full (odd_ne hb.2.1)
  have hEq2 := natS_full2 (odd_ne hb.2.1)
  have T0 := TC.start w a.t b.t
  unfold Dy.t at T0
  obtain ⟨p0, p1, p2, p3, p4, p5, p6⟩ := T0.1.2.1.facts
  obtain ⟨q0, q1, q2, q3, q4, q5, q6⟩ := T0.1.2.2.facts
  clear ha hb
  generalize hiD b a = D at *
  generalize hiE b a = E at *
  go_enter Tryz.func63, Tryz.ntmps63
  go_wp2_with fail
  refine (K.out _).mono ?_
  rintro e w1 ⟨rfl, hb⟩
  replace T0 := T0.step hb
  obtain ⟨r0, r1, r2, r3, r4, r5, r6⟩ := T0.2.facts
  unfold Dy.v
  clear hb p0 p1 p2 p3 p4 p5 p6 q0 q1 q2 q3 q4 q5 q6
  go_wp2_with fail
  refine bodyPost_ret (v := .tuple #[D.v, .int .i64 E]) (by simp [results, Tryz.results63, go_sem, r0, r1, r2, r3, Dy.v]) rfl ⟨rfl, ?_⟩
  exact T0.fin _ _ _
theorem rAdd3_c (a b : Dy) (w : World) (ha : a.Ok) (hb : b.Ok) :
    Calls Tryz.prog 63 #[.agg #[.bool a.g, .string (natS a.n), .int .i64 a.x], .agg #[.bool b.g, .string (natS b.n), .int .i64 b.x]] w (AddPost a b w) := by
  unfold AddPost
  rcases ha with rfl | ha
  · rw [(add_zl (a := Dy.zero) (b := b) rfl).1, (add_zl (a := Dy.zero) (b := b) rfl).2]
    show Calls _ _ #[.agg #[.bool false, .string (natS 0), .int .i64 0], _] _ _
    rw [natS_zero]; exact rAdd3_zl b w false 0
  · rcases hb with rfl | hb
    · rw [(add_zr (a := a) (b := Dy.zero) (odd_ne ha.2.1) rfl).1, (add_zr (a := a) (b := Dy.zero) (odd_ne ha.2.1) rfl).2]
      show Calls _ _ #[_, .agg #[.bool false, .string (natS 0), .int .i64 0]] _ _
      rw [natS_zero]; exact rAdd3_zr a w (odd_ne ha.2.1) false 0
    · by_cases h : a.x < b.x
      · rw [(add_lt (odd_ne ha.2.1) (odd_ne hb.2.1) h).1, (add_lt (odd_ne ha.2.1) (odd_ne hb.2.1) h).2]
        exact rAdd3_swap a b w ha hb h
      · rw [(add_ge (odd_ne ha.2.1) (odd_ne hb.2.1) h).1, (add_ge (odd_ne ha.2.1) (odd_ne hb.2.1) h).2]
        exact rAdd3_ge a b w ha hb (by omega)
def negD (d : Dy) : Dy := if d.n = 0 then d else ⟨!d.g, d.n, d.x⟩
theorem negD_zero : negD Dy.zero = Dy.zero := by unfold negD; exact if_pos rfl
theorem negD_num {d : Dy} (h : d.n ≠ 0) : negD d = ⟨!d.g, d.n, d.x⟩ := by unfold negD; exact if_neg h
theorem negD_Ok {d : Dy} (h : d.Ok) : (negD d).Ok := by
  rcases h with rfl | h
  · rw [negD_zero]; exact Or.inl rfl
  · rw [negD_num (odd_ne h.2.1)]; exact Or.inr h
theorem DNeg_c (d : Dy) (w : World) (h : d.Ok) : Calls Tryz.prog 58 #[.agg #[.bool d.g, .string (natS d.n), .int .i64 d.x]] w fun e w' => e = .returned ((negD d).v) ∧ Below w.heap.size w w' := by
  rcases h with rfl | h
  · rw [negD_zero, Dy.zero_v]
    show Calls _ _ #[.agg #[.bool false, .string (natS 0), .int .i64 0]] _ _
    rw [natS_zero]; exact DNeg_zero w
  · rw [negD_num (odd_ne h.2.1)]
    exact DNeg_num d.g d.n d.x w h.1 h.2.1 h.2.2.1 h.2.2.2
end Go.Proofs.YtjalpocjgpgcfaaGreatDoor
set_option linter.unusedSimpArgs false
set_option linter.unusedVariables false
namespace Go.Proofs.YtjalpocjgpgcfaaGreatDoor
open Go Go.RowKit Nt

set_option maxRecDepth 100000 in
set_option maxHeartbeats 2000000 in
theorem DSub_bad (a b : Dt) (w : World) (ha : a.s.size ≤ 9223372036854775807) (hb : b.s.size ≤ 9223372036854775807) (hn : ¬ (a.Ok ∧ b.Ok)) :
    Calls Tryz.prog 120 #[.agg #[.bool a.g, .string a.s, .int .i64 a.x], .agg #[.bool b.g, .string b.s, .int .i64 b.x]] w fun e w' => e = .returned (.tuple #[.agg #[.bool false, .string ⟨#[]⟩, .int .i64 0], .int .i64 2]) ∧ Below w.heap.size w w' := by
  have he : dE [a, b] = 2 := by
    by_cases h : a.Ok
    · exact dE_no (t := b) (by simp) (fun c => hn ⟨h, c⟩)
    · exact dE_no (t := a) (by simp) h
  have KA := Lib.hid (fun W T A hA => Dall2 a b W T A hA ha hb)
  rw [he] at KA
  have T0 := TC.start w a b
  clear ha hb hn he
  go_enter Tryz.func120, Tryz.ntmps120
  go_wp2_with fail
  refine (KA.out _ _ _ (by simp)).mono ?_
  rintro e w1 ⟨rfl, hb⟩
  replace T0 := (T0.more _).step hb
  clear hb
  obtain ⟨r0, r1, r2, r3, r4, r5, r6⟩ := T0.2.facts
  go_wp2_with fail
  refine bodyPost_ret (v := .tuple #[.agg #[.bool false, .string ⟨#[]⟩, .int .i64 0], .int .i64 2]) (by simp [results, Tryz.results120, go_sem, r0, r1, r2, r3]) rfl ⟨rfl, ?_⟩
  repeat (refine Below.setCell ?_ (by simp; omega) _)
  exact T0.1.1
set_option maxRecDepth 100000 in
set_option maxHeartbeats 2000000 in
theorem DSub_c (a b : Dy) (w : World) (ha : a.Ok) (hb : b.Ok) (hG : Globs glT w) :
    Calls Tryz.prog 120 #[.agg #[.bool a.g, .string (natS a.n), .int .i64 a.x], .agg #[.bool b.g, .string (natS b.n), .int .i64 b.x]] w (AddPost a (negD b) w) := by
  have KA := Lib.hid (fun W T A hA => all_ok2 a b ha hb W T A hA)
  have T0 := TC.start w a.t b.t
  have KN := Lib.hid (fun w => DNeg_c b w hb)
  have KD := Lib.hid (fun w hG => DAdd_c a (negD b) w ha (negD_Ok hb) hG)
  have HG := Lib.hid (fun W (h : TD w a.t b.t W) => hG.below h.1.1 (Nat.le_refl _))
  clear hG
  clear ha hb
  unfold AddPost at KD ⊢
  generalize addD a (negD b) = D at *
  generalize addE a (negD b) = E at *
  generalize negD b = c at *
  unfold Dy.t at T0
  go_enter Tryz.func120, Tryz.ntmps120
  go_wp2_with fail
  refine (KA.out _ _ _ (by simp)).mono ?_
  rintro e w1 ⟨rfl, hb⟩
  replace T0 := (T0.more _).step hb
  clear hb
  have T1 : TD w a.t b.t w1 := T0.td
  clear T0
  go_wp2_with fail
  have M0 : ∀ W, TD w a.t b.t W → W.cell? ⟨w.heap.size, 0, none⟩ = some (.bool a.g) := fun W h => h.1.2.1.facts.2.1
  have M1 : ∀ W, TD w a.t b.t W → W.cell? ⟨w.heap.size, 1, none⟩ = some (.string (natS a.n)) := fun W h => h.1.2.1.facts.2.2.1
  have M2 : ∀ W, TD w a.t b.t W → W.cell? ⟨w.heap.size, 2, none⟩ = some (.int .i64 a.x) := fun W h => h.1.2.1.facts.2.2.2.1
  have M3 : ∀ W, TD w a.t b.t W → W.cell? ⟨w.heap.size + 1, 0, none⟩ = some (.bool b.g) := fun W h => h.1.2.2.facts.2.1
  have M4 : ∀ W, TD w a.t b.t W → W.cell? ⟨w.heap.size + 1, 1, none⟩ = some (.string (natS b.n)) := fun W h => h.1.2.2.facts.2.2.1
  have M5 : ∀ W, TD w a.t b.t W → W.cell? ⟨w.heap.size + 1, 2, none⟩ = some (.int .i64 b.x) := fun W h => h.1.2.2.facts.2.2.2.1
  have M6 := fun W (h : TD w a.t b.t W) => h.cells.2.1
  have M7 := fun W (h : TD w a.t b.t W) => h.cells.2.2.1
  have M8 := fun W (h : TD w a.t b.t W) => h.cells.2.2.2.1
  have M9 := fun W (h : TD w a.t b.t W) => h.cells.2.2.2.2.1
  have M10 := fun W (h : TD w a.t b.t W) => h.cells.2.2.2.2.2.1
  have M11 := fun W (h : TD w a.t b.t W) => h.cells.2.2.2.2.2.2
  go_region_held3 (TD w a.t b.t) (first | assumption | exact TD.step (by assumption) (by assumption) | exact TD.put (by assumption) _ _ _ | exact TD.drew (by assumption) | exact TD.drawn (by assumption) _)
    (first
      | (go_at_call 58; (refine (KN.out _).mono ?_); rintro e wd ⟨rfl, hb10⟩; unfold Dy.v)
      | (go_at_call 20; (refine (KD.out _ (HG.out _ (by assumption))).mono ?_); rintro e we ⟨rfl, hb11⟩; have HSV := Lib.hid (TD.step (a := a.t) (b := b.t) (w := w) (by assumption) hb11); unfold Dy.v))
  obtain ⟨r0, r1, r2, r3, r4, r5, r6⟩ := HSV.out.cells
  have hfin := below_put HSV.out.1.1 (show w.heap.size ≤ w.heap.size + 2 by omega)
  clear M0 M1 M2 M3 M4 M5 M6 M7 M8 M9 M10 M11
  go_wp2_with fail
  refine bodyPost_ret (v := .tuple #[D.v, .int .i64 E]) (by simp [results, Tryz.results120, go_sem, r0, r1, r2, r3, Dy.v]) rfl ⟨rfl, ?_⟩
  exact hfin _ _ _
end Go.Proofs.YtjalpocjgpgcfaaGreatDoor
set_option linter.unusedSimpArgs false
set_option linter.unusedVariables false
namespace Go.Proofs.YtjalpocjgpgcfaaGreatDoor
open Go Go.RowKit Nt

@[irreducible] def mulD (a b : Dy) : Dy := mkD (a.g != b.g) (a.n * b.n) (a.x + b.x)
@[irreducible] def mulE (a b : Dy) : Int := mkE (a.n * b.n) (a.x + b.x)
theorem mulD_eq (a b : Dy) : mulD a b = mkD (a.g != b.g) (a.n * b.n) (a.x + b.x) := by unfold mulD; rfl
theorem mulE_eq (a b : Dy) : mulE a b = mkE (a.n * b.n) (a.x + b.x) := by unfold mulE; rfl
theorem mul_z {a b : Dy} (h : a.n = 0 ∨ b.n = 0) : mulD a b = Dy.zero ∧ mulE a b = 0 := by
  have e : a.n * b.n = 0 := by rcases h with h | h <;> rw [h] <;> simp
  rw [mulD_eq, mulE_eq, e, mkD_zero, mkE_zero]; exact ⟨rfl, rfl⟩
theorem mulD_Ok (a b : Dy) : (mulD a b).Ok := by rw [mulD_eq]; exact mkD_Ok _ _ _
/-- What Mul leaves. -/
def MulPost (a b : Dy) (w : World) (e : Ending) (w' : World) : Prop := e = .returned (.tuple #[(mulD a b).v, .int .i64 (mulE a b)]) ∧ Below w.heap.size w w'
set_option maxRecDepth 100000 in
set_option maxHeartbeats 2000000 in
theorem DMul_bad (a b : Dt) (w : World) (ha : a.s.size ≤ 9223372036854775807) (hb : b.s.size ≤ 9223372036854775807) (hn : ¬ (a.Ok ∧ b.Ok)) :
    Calls Tryz.prog 121 #[.agg #[.bool a.g, .string a.s, .int .i64 a.x], .agg #[.bool b.g, .string b.s, .int .i64 b.x]] w fun e w' => e = .returned (.tuple #[.agg #[.bool false, .string ⟨#[]⟩, .int .i64 0], .int .i64 2]) ∧ Below w.heap.size w w' := by
  have he : dE [a, b] = 2 := by
    by_cases h : a.Ok
    · exact dE_no (t := b) (by simp) (fun c => hn ⟨h, c⟩)
    · exact dE_no (t := a) (by simp) h
  have KA := Lib.hid (fun W T A hA => Dall2 a b W T A hA ha hb)
  rw [he] at KA
  have T0 := TC.start w a b
  clear ha hb hn he
  go_enter Tryz.func121, Tryz.ntmps121
  go_wp2_with fail
  refine (KA.out _ _ _ (by simp)).mono ?_
  rintro e w1 ⟨rfl, hb⟩
  replace T0 := (T0.more _).step hb
  clear hb
  obtain ⟨r0, r1, r2, r3, r4, r5, r6⟩ := T0.2.facts
  go_wp2_with fail
  refine bodyPost_ret (v := .tuple #[.agg #[.bool false, .string ⟨#[]⟩, .int .i64 0], .int .i64 2]) (by simp [results, Tryz.results121, go_sem, r0, r1, r2, r3]) rfl ⟨rfl, ?_⟩
  repeat (refine Below.setCell ?_ (by simp; omega) _)
  exact T0.1.1
set_option maxRecDepth 100000 in
set_option maxHeartbeats 2000000 in
theorem DMul_zl (b : Dy) (w : World) (hb : b.Ok) :
    Calls Tryz.prog 121 #[.agg #[.bool false, .string ⟨#[]⟩, .int .i64 0], .agg #[.bool b.g, .string (natS b.n), .int .i64 b.x]] w fun e w' => e = .returned (.tuple #[.agg #[.bool false, .string ⟨#[]⟩, .int .i64 0], .int .i64 0]) ∧ Below w.heap.size w w' := by
  have KA := Lib.hid (fun W T A hA => all_ok2 Dy.zero b (Or.inl rfl) hb W T A hA)
  simp only [Dy.zero, natS_zero] at KA
  have T0 := TC.start w ⟨false, ⟨#[]⟩, 0⟩ b.t
  unfold Dy.t at T0
  go_enter Tryz.func121, Tryz.ntmps121
  go_wp2_with fail
  refine (KA.out _ _ _ (by simp)).mono ?_
  rintro e w1 ⟨rfl, hb⟩
  replace T0 := (T0.more _).step hb
  clear hb
  obtain ⟨p0, p1, p2, p3, p4, p5, p6⟩ := T0.1.2.1.facts
  obtain ⟨q0, q1, q2, q3, q4, q5, q6⟩ := T0.1.2.2.facts
  obtain ⟨r0, r1, r2, r3, r4, r5, r6⟩ := T0.2.facts
  go_wp2_with fail
  refine bodyPost_ret (v := .tuple #[.agg #[.bool false, .string ⟨#[]⟩, .int .i64 0], .int .i64 0]) (by simp [results, Tryz.results121, go_sem, r0, r1, r2, r3]) rfl ⟨rfl, ?_⟩
  repeat (refine Below.setCell ?_ (by simp; omega) _)
  first
    | exact T0.1.1
    | exact (((Below.refl _ _).alloc (Nat.le_refl _) _).alloc (by simp) _).alloc (by simp; omega) _
set_option maxRecDepth 100000 in
set_option maxHeartbeats 2000000 in
theorem DMul_zr (a : Dy) (w : World) (ha : a.Num) :
    Calls Tryz.prog 121 #[.agg #[.bool a.g, .string (natS a.n), .int .i64 a.x], .agg #[.bool false, .string ⟨#[]⟩, .int .i64 0]] w fun e w' => e = .returned (.tuple #[.agg #[.bool false, .string ⟨#[]⟩, .int .i64 0], .int .i64 0]) ∧ Below w.heap.size w w' := by
  have KA := Lib.hid (fun W T A hA => all_ok2 a Dy.zero (Or.inr ha) (Or.inl rfl) W T A hA)
  simp only [Dy.zero, natS_zero] at KA
  have T0 := TC.start w a.t ⟨false, ⟨#[]⟩, 0⟩
  unfold Dy.t at T0
  have hE := natS_full (odd_ne ha.2.1)
  have hE2 := natS_full2 (odd_ne ha.2.1)
  clear ha
  go_enter Tryz.func121, Tryz.ntmps121
  go_wp2_with fail
  refine (KA.out _ _ _ (by simp)).mono ?_
  rintro e w1 ⟨rfl, hb⟩
  replace T0 := (T0.more _).step hb
  clear hb
  obtain ⟨p0, p1, p2, p3, p4, p5, p6⟩ := T0.1.2.1.facts
  obtain ⟨q0, q1, q2, q3, q4, q5, q6⟩ := T0.1.2.2.facts
  obtain ⟨r0, r1, r2, r3, r4, r5, r6⟩ := T0.2.facts
  go_wp2_with fail
  refine bodyPost_ret (v := .tuple #[.agg #[.bool false, .string ⟨#[]⟩, .int .i64 0], .int .i64 0]) (by simp [results, Tryz.results121, go_sem, r0, r1, r2, r3]) rfl ⟨rfl, ?_⟩
  repeat (refine Below.setCell ?_ (by simp; omega) _)
  first
    | exact T0.1.1
    | exact (((Below.refl _ _).alloc (Nat.le_refl _) _).alloc (by simp) _).alloc (by simp; omega) _
set_option maxRecDepth 100000 in
set_option maxHeartbeats 2000000 in
theorem DMul_num (a b : Dy) (w : World) (ha : a.Num) (hb : b.Num) :
    Calls Tryz.prog 121 #[.agg #[.bool a.g, .string (natS a.n), .int .i64 a.x], .agg #[.bool b.g, .string (natS b.n), .int .i64 b.x]] w (MulPost a b w) := by
  have KA := Lib.hid (fun W T A hA => all_ok2 a b (Or.inr ha) (Or.inr hb) W T A hA)
  have T0 := TC.start w a.t b.t
  unfold Dy.t at T0
  have KM := Lib.hid (fun w => NMul_c a.n b.n w ha.1 hb.1)
  have hEp := natS_full (odd_ne ha.2.1)
  have hEp2 := natS_full2 (odd_ne ha.2.1)
  have hEq := natS_full (odd_ne hb.2.1)
  have hEq2 := natS_full2 (odd_ne hb.2.1)
  have hxa := ha.2.2
  have hxb := hb.2.2
  have hodd : (a.n * b.n) % 2 = 1 := by rw [Nat.mul_mod, ha.2.1, hb.2.1]
  unfold MulPost
  by_cases hf : fits (a.n * b.n)
  · rw [resS_ok hf, resE_ok hf] at KM
    have KK : Hid (∀ w, Calls Tryz.prog 52 #[.bool (a.g != b.g), .string (natS (a.n * b.n)), .int .i64 (a.x + b.x)] w fun e w' => e = .returned (.tuple #[(mulD a b).v, .int .i64 (mulE a b)]) ∧ Below w.heap.size w w') := Lib.hid fun w => by
      have := DMake_c (a.g != b.g) (a.n * b.n) (a.x + b.x) w hf (by omega)
      unfold MkPost at this
      rw [← mulD_eq, ← mulE_eq] at this
      exact this
    clear ha hb hf hodd
    generalize mulD a b = D at *
    generalize mulE a b = E at *
    generalize a.n * b.n = z at *
    go_enter Tryz.func121, Tryz.ntmps121
    go_wp2_with fail
    refine (KA.out _ _ _ (by simp)).mono ?_
    rintro e w1 ⟨rfl, hb⟩
    replace T0 := (T0.more _).step hb
    clear hb
    obtain ⟨p0, p1, p2, p3, p4, p5, p6⟩ := T0.1.2.1.facts
    obtain ⟨q0, q1, q2, q3, q4, q5, q6⟩ := T0.1.2.2.facts
    go_wp2_with fail
    refine (KM.out _).mono ?_
    rintro e w2 ⟨rfl, hb⟩
    replace T0 := T0.step hb
    clear hb p0 p1 p2 p3 p4 p5 p6 q0 q1 q2 q3 q4 q5 q6
    obtain ⟨p0, p1, p2, p3, p4, p5, p6⟩ := T0.1.2.1.facts
    obtain ⟨q0, q1, q2, q3, q4, q5, q6⟩ := T0.1.2.2.facts
    go_wp2_with fail
    refine (KK.out _).mono ?_
    rintro e w3 ⟨rfl, hb⟩
    replace T0 := T0.step hb
    obtain ⟨r0, r1, r2, r3, r4, r5, r6⟩ := T0.2.facts
    clear hb p0 p1 p2 p3 p4 p5 p6 q0 q1 q2 q3 q4 q5 q6
    unfold Dy.v
    go_wp2_with fail
    refine bodyPost_ret (v := .tuple #[D.v, .int .i64 E]) (by simp [results, Tryz.results121, go_sem, r0, r1, r2, r3, Dy.v]) rfl ⟨rfl, ?_⟩
    exact T0.fin _ _ _
  · rw [resS_no hf, resE_no hf] at KM
    have hno : ¬ mkOk3 (a.n * b.n) (a.x + b.x) := by
      rintro (h | ⟨h, _⟩)
      · exact odd_ne hodd h
      · rw [odN_odd hodd] at h; exact hf h
    have HR := Lib.hid (show mulD a b = Dy.zero ∧ mulE a b = 4 from ⟨by rw [mulD_eq, mkD_no hno], by rw [mulE_eq, mkE_no hno]⟩)
    clear ha hb hf hodd hno
    go_enter Tryz.func121, Tryz.ntmps121
    go_wp2_with fail
    refine (KA.out _ _ _ (by simp)).mono ?_
    rintro e w1 ⟨rfl, hb⟩
    replace T0 := (T0.more _).step hb
    clear hb
    obtain ⟨p0, p1, p2, p3, p4, p5, p6⟩ := T0.1.2.1.facts
    obtain ⟨q0, q1, q2, q3, q4, q5, q6⟩ := T0.1.2.2.facts
    go_wp2_with fail
    refine (KM.out _).mono ?_
    rintro e w2 ⟨rfl, hb⟩
    replace T0 := T0.step hb
    obtain ⟨r0, r1, r2, r3, r4, r5, r6⟩ := T0.2.facts
    clear hb p0 p1 p2 p3 p4 p5 p6 q0 q1 q2 q3 q4 q5 q6
    go_wp2_with fail
    refine bodyPost_ret (v := .tuple #[.agg #[.bool false, .string ⟨#[]⟩, .int .i64 0], .int .i64 4]) (by simp [results, Tryz.results121, go_sem, r0, r1, r2, r3]) rfl ⟨?_, ?_⟩
    · rw [HR.out.1, HR.out.2, Dy.zero_v]
    · exact T0.fin _ _ _
theorem DMul_c (a b : Dy) (w : World) (ha : a.Ok) (hb : b.Ok) :
    Calls Tryz.prog 121 #[.agg #[.bool a.g, .string (natS a.n), .int .i64 a.x], .agg #[.bool b.g, .string (natS b.n), .int .i64 b.x]] w (MulPost a b w) := by
  rcases ha with rfl | ha
  · unfold MulPost
    rw [(mul_z (a := Dy.zero) (b := b) (Or.inl rfl)).1, (mul_z (a := Dy.zero) (b := b) (Or.inl rfl)).2, Dy.zero_v]
    show Calls _ _ #[.agg #[.bool false, .string (natS 0), .int .i64 0], _] _ _
    rw [natS_zero]; exact DMul_zl b w hb
  · rcases hb with rfl | hb
    · unfold MulPost
      rw [(mul_z (a := a) (b := Dy.zero) (Or.inr rfl)).1, (mul_z (a := a) (b := Dy.zero) (Or.inr rfl)).2, Dy.zero_v]
      show Calls _ _ #[_, .agg #[.bool false, .string (natS 0), .int .i64 0]] _ _
      rw [natS_zero]; exact DMul_zr a w ha
    · exact DMul_num a b w ha hb
end Go.Proofs.YtjalpocjgpgcfaaGreatDoor
set_option linter.unusedSimpArgs false
set_option linter.unusedVariables false
namespace Go.Proofs.YtjalpocjgpgcfaaGreatDoor
open Go Go.RowKit Nt

end Go.Proofs.YtjalpocjgpgcfaaGreatDoor
set_option linter.unusedSimpArgs false
set_option linter.unusedVariables false
namespace Go.Proofs.YtjalpocjgpgcfaaGreatDoor
open Go Go.RowKit Nt

/-- From w on: a Dyad in a box, and a second box for what is answered. -/
def OC (w : World) (a : Dt) (W : World) : Prop := OB w a W ∧ Box3 W (w.heap.size + 1) (.bool false) (.string ⟨#[]⟩) (.int .i64 0)
theorem OC.start (w : World) (a : Dt) : OC w a ((w.alloc (.cells #[.bool a.g, .string a.s, .int .i64 a.x] 24)).alloc (.cells #[.bool false, .string ⟨#[]⟩, .int .i64 0] 24)) := by
  refine ⟨(OB.start w a).more _, ?_⟩
  have := Box3.new (w.alloc (.cells #[.bool a.g, .string a.s, .int .i64 a.x] 24)) (.bool false) (.string ⟨#[]⟩) (.int .i64 0)
  simpa using this
theorem OC.step {w : World} {a : Dt} {W W' : World} (h : OC w a W) (hb : Below W.heap.size W W') : OC w a W' := ⟨h.1.step hb, h.2.step hb⟩
theorem OC.more {w : World} {a : Dt} {W : World} (h : OC w a W) (o : Obj) : OC w a (W.alloc o) := h.step ((Below.refl _ _).alloc (Nat.le_refl _) _)
theorem OC.fin {w : World} {a : Dt} {W : World} (h : OC w a W) (x y z : Value) : Below w.heap.size w (((W.setCell ⟨w.heap.size + 1, 0, none⟩ x).setCell ⟨w.heap.size + 1, 1, none⟩ y).setCell ⟨w.heap.size + 1, 2, none⟩ z) := below_put h.1.1 (by omega) x y z
@[irreducible] def shD (d : Dy) (k : Int) : Dy := mkD d.g d.n (d.x + k)
@[irreducible] def shE (d : Dy) (k : Int) : Int := mkE d.n (d.x + k)
theorem shD_eq (d : Dy) (k : Int) : shD d k = mkD d.g d.n (d.x + k) := by unfold shD; rfl
theorem shE_eq (d : Dy) (k : Int) : shE d k = mkE d.n (d.x + k) := by unfold shE; rfl
theorem sh_zero (k : Int) : shD Dy.zero k = Dy.zero ∧ shE Dy.zero k = 0 := by rw [shD_eq, shE_eq]; exact ⟨mkD_zero _ _, mkE_zero _⟩
theorem odd_mk {n : Nat} {x : Int} (ho : n % 2 = 1) (hf : fits n) : mkOk3 n x ↔ (-1048576 ≤ x ∧ x ≤ 1048576) := by
  unfold mkOk3
  rw [odN_odd ho, lowN_odd ho]
  constructor
  · rintro (h | ⟨_, h1, h2⟩)
    · exact absurd h (odd_ne ho)
    · exact ⟨by omega, by omega⟩
  · intro h; exact Or.inr ⟨hf, by omega, by omega⟩
theorem sh_no {d : Dy} {k : Int} (h : d.Num) (hk : ¬ (-1048576 ≤ d.x + k ∧ d.x + k ≤ 1048576)) : shD d k = Dy.zero ∧ shE d k = 4 := by
  have hno : ¬ mkOk3 d.n (d.x + k) := fun c => hk ((odd_mk h.2.1 h.1).1 c)
  rw [shD_eq, shE_eq]; exact ⟨mkD_no hno, mkE_no hno⟩
theorem sh_ok {d : Dy} {k : Int} (h : d.Num) (hk : -1048576 ≤ d.x + k ∧ d.x + k ≤ 1048576) : shD d k = ⟨d.g, d.n, d.x + k⟩ ∧ shE d k = 0 := by
  have hok := (odd_mk h.2.1 h.1).2 hk
  rw [shD_eq, shE_eq, mkD_ok (odd_ne h.2.1) hok, mkE_ok hok, odN_odd h.2.1, lowN_odd h.2.1]
  refine ⟨?_, rfl⟩
  congr 1; omega
def ShPost (d : Dy) (k : Int) (w : World) (e : Ending) (w' : World) : Prop := e = .returned (.tuple #[(shD d k).v, .int .i64 (shE d k)]) ∧ Below w.heap.size w w'
end Go.Proofs.YtjalpocjgpgcfaaGreatDoor
set_option linter.unusedSimpArgs false
set_option linter.unusedVariables false
namespace Go.Proofs.YtjalpocjgpgcfaaGreatDoor
open Go Go.RowKit Nt

def flN (d : Dy) (k : Int) : Nat := d.n / 2 ^ (k - d.x).toNat + (if d.g = true then 1 else 0)
@[irreducible] def flD (d : Dy) (k : Int) : Dy := if k < -1048576 ∨ 1048576 < k then Dy.zero else if d.n = 0 ∨ k ≤ d.x then d else mkD d.g (flN d k) k
@[irreducible] def flE (d : Dy) (k : Int) : Int := if k < -1048576 ∨ 1048576 < k then 2 else if d.n = 0 ∨ k ≤ d.x then 0 else mkE (flN d k) k
theorem fl_out {d : Dy} {k : Int} (h : k < -1048576 ∨ 1048576 < k) : flD d k = Dy.zero ∧ flE d k = 2 := by unfold flD flE; rw [if_pos h, if_pos h]; exact ⟨rfl, rfl⟩
theorem fl_self {d : Dy} {k : Int} (h : ¬ (k < -1048576 ∨ 1048576 < k)) (h2 : d.n = 0 ∨ k ≤ d.x) : flD d k = d ∧ flE d k = 0 := by unfold flD flE; rw [if_neg h, if_neg h, if_pos h2, if_pos h2]; exact ⟨rfl, rfl⟩
theorem fl_mk {d : Dy} {k : Int} (h : ¬ (k < -1048576 ∨ 1048576 < k)) (h2 : ¬ (d.n = 0 ∨ k ≤ d.x)) : flD d k = mkD d.g (flN d k) k ∧ flE d k = mkE (flN d k) k := by unfold flD flE; rw [if_neg h, if_neg h, if_neg h2, if_neg h2]; exact ⟨rfl, rfl⟩
def FlPost3 (d : Dy) (k : Int) (w : World) (e : Ending) (w' : World) : Prop := e = .returned (.tuple #[(flD d k).v, .int .i64 (flE d k)]) ∧ Below w.heap.size w w'
theorem half_fits {n j : Nat} (hf : fits n) (h0 : n ≠ 0) (hj : 0 < j) : fits (n / 2 ^ j) ∧ fits (n / 2 ^ j + 1) := by
  have h1 : n / 2 ^ j ≤ n / 2 := by
    have e : (2 : Nat) ^ j = 2 * 2 ^ (j - 1) := by rw [show j = (j - 1) + 1 by omega, Nat.pow_succ, Nat.mul_comm]; rfl
    rw [e, ← Nat.div_div_eq_div_mul]
    exact Nat.div_le_self _ _
  exact ⟨fits_le hf (by omega), fits_le hf (by omega)⟩
theorem shift_down (n j : Nat) (w : World) (hf : fits n) (h0 : n ≠ 0) (hj : 0 < j) : Calls Tryz.prog 84 #[.string (natS n), .int .i64 (-(j : Int))] w (StrPost (natS (n / 2 ^ j)) 0 w) := by
  by_cases h : j < nd 2 n
  · exact NShift_down n j w hf h0 hj h
  · have h2 : n / 2 ^ j = 0 := Nat.div_eq_of_lt (Nat.lt_of_lt_of_le (lt_nd (b := 2) (by omega)) (Nat.pow_le_pow_right (by omega) (by omega)))
    rw [h2, natS_zero]
    exact NShift_far n _ w hf h0 (by omega) (by omega)
end Go.Proofs.YtjalpocjgpgcfaaGreatDoor
set_option linter.unusedSimpArgs false
set_option linter.unusedVariables false
namespace Go.Proofs.YtjalpocjgpgcfaaGreatDoor
open Go Go.RowKit Nt

theorem nd_one : nd 256 1 = 1 := by rw [nd_step (by omega) (by omega), show 1 / 256 = 0 from rfl, nd_zero]
theorem dgt_one : dgt 256 1 0 = 1 := by rw [dgt_def]
theorem own_one (W : World) : Own (W.alloc (.cells #[.int .i64 1] 3)) W.heap.size 3 .i64 (.slice (some ⟨W.heap.size, 0, none⟩) 1 1) (dl 256 1 1) := by
  have e : fcells .i64 (dgt 256 1) 1 = #[.int .i64 1] := by
    unfold fcells
    simp [dgt_one]
  have := Own.of_fcells3 (w := W.alloc (.cells #[.int .i64 1] 3)) (B := W.heap.size) (g := W.heap.size) (T := 3) (k := .i64) (f := dgt 256 1) (L := 1) (by rw [e]; exact Blk.new W _ _) (Nat.le_refl _) (by omega)
  exact this
end Go.Proofs.YtjalpocjgpgcfaaGreatDoor
set_option linter.unusedVariables false
set_option linter.unusedSimpArgs false
set_option linter.unusedSectionVars false
namespace Go.Proofs.YtjalpocjgpgcfaaGreatDoor
open Go Go.RowKit Nt

theorem natS_inj {m n : Nat} : natS m = natS n ↔ m = n := by
  constructor
  · intro h
    have : (natS m).toList = (natS n).toList := by rw [h]
    exact (natS_list_eq m n).1 this
  · rintro rfl; rfl
theorem Dy.ext_iff' {a b : Dy} : (a.g = b.g ∧ natS a.n = natS b.n ∧ a.x = b.x) ↔ a = b := by
  obtain ⟨g, n, x⟩ := a
  obtain ⟨g', n', x'⟩ := b
  simp [natS_inj]
theorem str_inj {s s' : ByteArray} (h : s.toList = s'.toList) : s = s' := by
  rw [ByteArray.toList_eq, ByteArray.toList_eq] at h
  obtain ⟨a⟩ := s
  obtain ⟨b⟩ := s'
  have : a = b := Array.ext' h
  rw [this]
theorem eqDy_run {g g' : Bool} {s s' : ByteArray} {x x' : Int} {c : Bool} (h : c = true ↔ (g = g' ∧ s = s' ∧ x = x')) (p q : Operand) (w : World) : (do eqGuard .eql 24 p q (.agg #[.bool g, .string s, .int .i64 x]) (.agg #[.bool g', .string s', .int .i64 x']); binOp .eql 24 (.agg #[.bool g, .string s, .int .i64 x]) (.agg #[.bool g', .string s', .int .i64 x'])).run Tryz.prog w = .ok (.bool c) w := by
  go_simp
  by_cases h1 : g = g'
  · by_cases h2 : s.toList = s'.toList
    · by_cases h3 : x = x'
      · rw [if_pos h1, if_pos h2, if_pos h3, h.2 ⟨h1, str_inj h2, h3⟩]
      · rw [if_pos h1, if_pos h2, if_neg h3, show c = false by cases c <;> first | rfl | exact absurd (h.1 rfl).2.2 h3]
    · rw [if_pos h1, if_neg h2, show c = false by cases c <;> first | rfl | exact absurd (congrArg _ (h.1 rfl).2.1) h2]
  · rw [if_neg h1, show c = false by cases c <;> first | rfl | exact absurd (h.1 rfl).1 h1]
theorem neDy_run {g g' : Bool} {s s' : ByteArray} {x x' : Int} {c : Bool} (h : c = true ↔ (g = g' ∧ s = s' ∧ x = x')) (p q : Operand) (w : World) : (do eqGuard .neq 24 p q (.agg #[.bool g, .string s, .int .i64 x]) (.agg #[.bool g', .string s', .int .i64 x']); binOp .neq 24 (.agg #[.bool g, .string s, .int .i64 x]) (.agg #[.bool g', .string s', .int .i64 x'])).run Tryz.prog w = .ok (.bool (!c)) w := by
  go_simp
  by_cases h1 : g = g'
  · by_cases h2 : s.toList = s'.toList
    · by_cases h3 : x = x'
      · rw [if_pos h1, if_pos h2, if_pos h3, h.2 ⟨h1, str_inj h2, h3⟩]; rfl
      · rw [if_pos h1, if_pos h2, if_neg h3, show c = false by cases c <;> first | rfl | exact absurd (h.1 rfl).2.2 h3]; rfl
    · rw [if_pos h1, if_neg h2, show c = false by cases c <;> first | rfl | exact absurd (congrArg _ (h.1 rfl).2.1) h2]; rfl
  · rw [if_neg h1, show c = false by cases c <;> first | rfl | exact absurd (h.1 rfl).1 h1]; rfl
section
variable [Env]
theorem optD_eql {A B : AV} {g g' : Bool} {s s' : ByteArray} {x x' : Int} {c : Bool} (ha : gval A = .agg #[.bool g, .string s, .int .i64 x]) (hb : gval B = .agg #[.bool g', .string s', .int .i64 x']) (h : c = true ↔ (g = g' ∧ s = s' ∧ x = x')) : OpT Tryz.prog [0, 11, 24] [A, B] (.lit (.bool c)) :=
  opt_bin (op := .eql) rfl fun p q w => by rw [ha, hb]; exact eqDy_run h p q w
theorem optD_neq {A B : AV} {g g' : Bool} {s s' : ByteArray} {x x' : Int} {c : Bool} (ha : gval A = .agg #[.bool g, .string s, .int .i64 x]) (hb : gval B = .agg #[.bool g', .string s', .int .i64 x']) (h : c = true ↔ (g = g' ∧ s = s' ∧ x = x')) : OpT Tryz.prog [0, 12, 24] [A, B] (.lit (.bool (!c))) :=
  opt_bin (op := .neq) rfl fun p q w => by rw [ha, hb]; exact neDy_run h p q w
theorem optD_eql_i {A B : AV} {a b : Dy} {c : Bool} (ha : gval A = a.v) (hb : gval B = b.v) (h : c = true ↔ a = b) : OpT Tryz.prog [0, 11, 24] [A, B] (.lit (.bool c)) := optD_eql ha hb (h.trans Dy.ext_iff'.symm)
theorem optD_neq_i {A B : AV} {a b : Dy} {c : Bool} (ha : gval A = a.v) (hb : gval B = b.v) (h : c = true ↔ a = b) : OpT Tryz.prog [0, 12, 24] [A, B] (.lit (.bool (!c))) := optD_neq ha hb (h.trans Dy.ext_iff'.symm)
theorem optD_eql_t {A B : AV} {a b : Dy} (ha : gval A = a.v) (hb : gval B = b.v) (h : a = b) : OpT Tryz.prog [0, 11, 24] [A, B] (.lit (.bool true)) := optD_eql ha hb ⟨fun _ => Dy.ext_iff'.2 h, fun _ => rfl⟩
theorem optD_eql_f {A B : AV} {a b : Dy} (ha : gval A = a.v) (hb : gval B = b.v) (h : ¬ a = b) : OpT Tryz.prog [0, 11, 24] [A, B] (.lit (.bool false)) := optD_eql ha hb ⟨(fun c => by cases c), fun c => absurd (Dy.ext_iff'.1 c) h⟩
theorem optD_neq_t {A B : AV} {a b : Dy} (ha : gval A = a.v) (hb : gval B = b.v) (h : ¬ a = b) : OpT Tryz.prog [0, 12, 24] [A, B] (.lit (.bool true)) := optD_neq (c := false) ha hb ⟨(fun c => by cases c), fun c => absurd (Dy.ext_iff'.1 c) h⟩
theorem optD_neq_f {A B : AV} {a b : Dy} (ha : gval A = a.v) (hb : gval B = b.v) (h : a = b) : OpT Tryz.prog [0, 12, 24] [A, B] (.lit (.bool false)) := optD_neq (c := true) ha hb ⟨fun _ => Dy.ext_iff'.2 h, fun _ => rfl⟩
end
theorem Dy.one_num : (⟨false, 1, 0⟩ : Dy).Num := ⟨(show nd 256 1 ≤ 16384 from Nat.le_trans (nd_le (k := 1) (by omega) (by decide)) (by decide)), (by decide), (by decide), (by decide)⟩
def Dy.one : Dy := ⟨false, 1, 0⟩
theorem Dy.one_Ok : Dy.one.Ok := Or.inr Dy.one_num
theorem natS_dz : natS Dy.zero.n = ⟨#[]⟩ := natS_zero
theorem natS_one3 {n : Nat} (h0 : 1 ≤ n) (h : n < 256) : natS n = ⟨#[UInt8.ofNat n]⟩ := by
  have e : nd 256 n = 1 := nd_unique (b := 256) (k := 0) (by omega) (by simpa using h0) (by simpa using h)
  rw [natS_def, e]
  have : dl 256 n 1 = [n] := by
    unfold dl; simp [List.range_succ, dgt_def, Nat.mod_eq_of_lt h]
  rw [this]; rfl
theorem natS_d1 : natS Dy.one.n = ⟨#[1]⟩ := (show natS 1 = ⟨#[1]⟩ from natS_one3 (by omega) (by omega))
theorem Dy.one_v : Dy.one.v = .agg #[.bool false, .string ⟨#[1]⟩, .int .i64 0] := by unfold Dy.v; rw [natS_d1]; rfl
end Go.Proofs.YtjalpocjgpgcfaaGreatDoor
set_option linter.unusedSimpArgs false
set_option linter.unusedVariables false
namespace Go.Proofs.YtjalpocjgpgcfaaGreatDoor
open Go Go.RowKit Nt

end Go.Proofs.YtjalpocjgpgcfaaGreatDoor
set_option linter.unusedSimpArgs false
set_option linter.unusedVariables false
namespace Go.Proofs.YtjalpocjgpgcfaaGreatDoor
open Go Go.RowKit Nt

@[irreducible] def EE : Nat := 4194304
theorem EE_eq : EE = 4194304 := by unfold EE; rfl
/-- The value times 2 to the power EE. -/
def iv (d : Dy) : Int := sgnd d.g (d.n * 2 ^ (d.x + EE).toNat)
theorem iv_zero : iv Dy.zero = 0 := by
  unfold iv Dy.zero sgnd
  simp
theorem sgnd_abs (g : Bool) (m : Nat) : (sgnd g m).natAbs = m := by unfold sgnd; cases g <;> simp
theorem sgnd_neg {g : Bool} {m : Nat} (h : m ≠ 0) : decide (sgnd g m < 0) = g := by unfold sgnd; cases g <;> simp <;> omega
/-- What is made of a whole number over 2 to the power k. -/
def mkZ (z : Int) (k : Nat) : Dy := mkD (decide (z < 0)) z.natAbs (-(k : Int))
def mkZE (z : Int) (k : Nat) : Int := mkE z.natAbs (-(k : Int))
theorem mk_toZ (g : Bool) (n : Nat) (x : Int) (k : Nat) (h : -(k : Int) ≤ x) : mkD g n x = mkZ (sgnd g (n * 2 ^ (x + k).toNat)) k ∧ mkE n x = mkZE (sgnd g (n * 2 ^ (x + k).toNat)) k := by
  obtain ⟨j, hj⟩ : ∃ j, j = (x + k).toNat := ⟨_, rfl⟩
  rw [← hj]
  have e : -(k : Int) = x - (j : Int) := by omega
  have hs := mkD_shift g n j x
  unfold mkZ mkZE
  rw [sgnd_abs, e, hs.2]
  by_cases h0 : n = 0
  · subst h0; rw [Nat.zero_mul, mkD_zero, mkD_zero]; exact ⟨rfl, rfl⟩
  · have h1 : n * 2 ^ j ≠ 0 := Nat.mul_ne_zero h0 (Nat.pos_iff_ne_zero.1 (Nat.two_pow_pos j))
    rw [sgnd_neg h1, hs.1]; exact ⟨rfl, rfl⟩
theorem mkZ_scale (z : Int) (k m : Nat) : mkZ z k = mkZ (z * 2 ^ m) (k + m) ∧ mkZE z k = mkZE (z * 2 ^ m) (k + m) := by
  have hp : (0 : Int) < 2 ^ m := Int.pow_pos (by omega)
  have h := mk_toZ (decide (z < 0)) z.natAbs (-(k : Int)) (k + m) (by omega)
  have e : sgnd (decide (z < 0)) (z.natAbs * 2 ^ (-(k : Int) + ((k + m : Nat) : Int)).toNat) = z * 2 ^ m := by
    rw [show (-(k : Int) + ((k + m : Nat) : Int)).toNat = m by omega]
    unfold sgnd
    rw [Int.natCast_mul, Int.natCast_pow]
    by_cases hz : z < 0
    · rw [decide_eq_true hz, if_pos rfl, ← Int.neg_mul]
      rw [show -((z.natAbs : Nat) : Int) = z by omega]; rfl
    · rw [decide_eq_false hz, if_neg (by decide), show ((z.natAbs : Nat) : Int) = z by omega]; rfl
  rw [e] at h
  exact h
theorem mkZE_b (z : Int) (k : Nat) : mkZE z k = 0 ∨ mkZE z k = 4 := by
  unfold mkZE
  by_cases h : mkOk3 z.natAbs (-(k : Int))
  · exact Or.inl (mkE_ok h)
  · exact Or.inr (mkE_no h)
/-- A Dyad is made of its value. -/
theorem iv_mk {d : Dy} (h : d.Ok) : mkZ (iv d) EE = d ∧ mkZE (iv d) EE = 0 := by
  rcases h with rfl | h
  · rw [iv_zero]; unfold mkZ mkZE; exact ⟨mkD_zero _ _, mkE_zero _⟩
  · have h1 := mkD_self h
    have h2 := mk_toZ d.g d.n d.x EE (by rw [EE_eq]; have := h.2.2; omega)
    unfold iv
    rw [← h2.1, ← h2.2]; exact h1
theorem iv_inj {a b : Dy} (ha : a.Ok) (hb : b.Ok) (h : iv a = iv b) : a = b := by
  rw [← (iv_mk ha).1, h, (iv_mk hb).1]
/-- What is made where that may be has just that value. -/
theorem mk_iv {z : Int} (h : mkZE z EE = 0) : iv (mkZ z EE) = z := by
  have hk : mkOk3 z.natAbs (-(EE : Int)) := by
    by_cases c : mkOk3 z.natAbs (-(EE : Int))
    · exact c
    · unfold mkZE at h; rw [mkE_no c] at h; exact absurd h (by decide)
  unfold mkZ
  by_cases h0 : z.natAbs = 0
  · have : z = 0 := by omega
    subst this
    rw [show (0 : Int).natAbs = 0 from rfl, mkD_zero, iv_zero]
  · rw [mkD_ok h0 hk]
    unfold iv
    show sgnd (decide (z < 0)) (odN z.natAbs * 2 ^ (-(EE : Int) + (lowN z.natAbs : Int) + (EE : Int)).toNat) = z
    rw [show (-(EE : Int) + (lowN z.natAbs : Int) + (EE : Int)).toNat = lowN z.natAbs by omega, ← (odN_spec h0).2]
    unfold sgnd
    by_cases hz : z < 0
    · rw [decide_eq_true hz, if_pos rfl]; omega
    · rw [decide_eq_false hz, if_neg (by decide)]; omega
/-- And over another power. -/
theorem mk_iv2 {z : Int} {m : Nat} (h : mkZE z (EE + m) = 0) : iv (mkZ z (EE + m)) * 2 ^ m = z := by
  have hk : mkOk3 z.natAbs (-((EE + m : Nat) : Int)) := by
    by_cases c : mkOk3 z.natAbs (-((EE + m : Nat) : Int))
    · exact c
    · unfold mkZE at h; rw [mkE_no c] at h; exact absurd h (by decide)
  unfold mkZ
  by_cases h0 : z.natAbs = 0
  · have : z = 0 := by omega
    subst this
    rw [show (0 : Int).natAbs = 0 from rfl, mkD_zero, iv_zero, Int.zero_mul]
  · rw [mkD_ok h0 hk]
    have hx : -1048576 ≤ -((EE + m : Nat) : Int) + (lowN z.natAbs : Int) := by
      rcases hk with c | ⟨_, c, _⟩
      · exact absurd c h0
      · exact c
    obtain ⟨q, hq⟩ : ∃ q, lowN z.natAbs = q + m := ⟨lowN z.natAbs - m, by rw [EE_eq] at hx; omega⟩
    unfold iv
    show sgnd (decide (z < 0)) (odN z.natAbs * 2 ^ (-((EE + m : Nat) : Int) + (lowN z.natAbs : Int) + (EE : Int)).toNat) * 2 ^ m = z
    rw [show (-((EE + m : Nat) : Int) + (lowN z.natAbs : Int) + (EE : Int)).toNat = q by omega]
    have e : odN z.natAbs * 2 ^ q * 2 ^ m = z.natAbs := by rw [Nat.mul_assoc, ← Nat.pow_add, ← hq]; exact (odN_spec h0).2.symm
    have e2 : ((odN z.natAbs * 2 ^ q : Nat) : Int) * 2 ^ m = (z.natAbs : Int) := by
      have := congrArg (fun (x : Nat) => (x : Int)) e
      rw [Int.natCast_mul, Int.natCast_pow] at this
      exact this
    unfold sgnd
    by_cases hz : z < 0
    · rw [decide_eq_true hz, if_pos rfl, Int.neg_mul, e2]; omega
    · rw [decide_eq_false hz, if_neg (by decide), e2]; omega
theorem iv_neg (d : Dy) : iv (negD d) = - iv d := by
  unfold negD
  by_cases h : d.n = 0
  · rw [if_pos h]; unfold iv sgnd; rw [h, Nat.zero_mul]; cases d.g <;> rfl
  · rw [if_neg h]; unfold iv sgnd; cases d.g <;> simp
/-- A sum is made of the sum of the values. -/
theorem hi_iv {p q : Dy} (hp : p.Num) (hq : q.Num) (hle : q.x ≤ p.x) : hiD p q = mkZ (iv p + iv q) EE ∧ hiE p q = mkZE (iv p + iv q) EE := by
  obtain ⟨j, hj⟩ : ∃ j, j = (q.x + EE).toNat := ⟨_, rfl⟩
  have hqx := hq.2.2
  have hpx := hp.2.2
  have hjq : q.x = (j : Int) - (EE : Int) := by rw [EE_eq] at *; omega
  obtain ⟨i, hi⟩ : ∃ i, i = (p.x - q.x).toNat := ⟨_, rfl⟩
  have hpe : (p.x + EE).toNat = i + j := by omega
  have hup : upN p q = p.n * 2 ^ i := by rw [upN_eq, ← hi]
  have e1 := sum_mk p.g q.g (upN p q) q.n q.x
  have e2 := sum_abs p.g q.g (upN p q) q.n
  have h := mk_toZ (decide (sgnd p.g (upN p q) + sgnd q.g q.n < 0)) (sgnd p.g (upN p q) + sgnd q.g q.n).natAbs q.x EE (by rw [EE_eq]; omega)
  rw [← hj] at h
  rw [hiD_eq, hiE_eq, ← e1, ← e2, h.1, h.2]
  have hmain : sgnd (decide (sgnd p.g (upN p q) + sgnd q.g q.n < 0)) ((sgnd p.g (upN p q) + sgnd q.g q.n).natAbs * 2 ^ j) = iv p + iv q := by
    have hs : ∀ z : Int, sgnd (decide (z < 0)) (z.natAbs * 2 ^ j) = z * 2 ^ j := fun z => by
      unfold sgnd
      rw [Int.natCast_mul, Int.natCast_pow]
      by_cases hz : z < 0
      · rw [decide_eq_true hz, if_pos rfl, ← Int.neg_mul, show -((z.natAbs : Nat) : Int) = z by omega]; rfl
      · rw [decide_eq_false hz, if_neg (by decide), show ((z.natAbs : Nat) : Int) = z by omega]; rfl
    rw [hs, Int.add_mul]
    unfold iv
    rw [hpe, ← hj, hup]
    have hg : ∀ (g : Bool) (m : Nat), sgnd g m * 2 ^ j = sgnd g (m * 2 ^ j) := fun g m => by
      unfold sgnd
      rw [Int.natCast_mul, Int.natCast_pow]
      cases g
      · rfl
      · rw [if_pos rfl, if_pos rfl, Int.neg_mul]; rfl
    rw [hg, hg, Nat.mul_assoc, ← Nat.pow_add]
  rw [hmain]; exact ⟨rfl, rfl⟩
theorem add_iv {a b : Dy} (ha : a.Ok) (hb : b.Ok) : addD a b = mkZ (iv a + iv b) EE ∧ addE a b = mkZE (iv a + iv b) EE := by
  rcases ha with rfl | ha
  · have h := iv_mk hb
    rw [(add_zl (a := Dy.zero) (b := b) rfl).1, (add_zl (a := Dy.zero) (b := b) rfl).2, iv_zero, Int.zero_add]
    exact ⟨h.1.symm, h.2.symm⟩
  · rcases hb with rfl | hb
    · have h := iv_mk (Or.inr ha)
      rw [(add_zr (a := a) (b := Dy.zero) (odd_ne ha.2.1) rfl).1, (add_zr (a := a) (b := Dy.zero) (odd_ne ha.2.1) rfl).2, iv_zero, Int.add_zero]
      exact ⟨h.1.symm, h.2.symm⟩
    · by_cases h : a.x < b.x
      · rw [(add_lt (odd_ne ha.2.1) (odd_ne hb.2.1) h).1, (add_lt (odd_ne ha.2.1) (odd_ne hb.2.1) h).2, Int.add_comm]
        exact hi_iv hb ha (by omega)
      · rw [(add_ge (odd_ne ha.2.1) (odd_ne hb.2.1) h).1, (add_ge (odd_ne ha.2.1) (odd_ne hb.2.1) h).2]
        exact hi_iv ha hb (by omega)
theorem sgnd_mul (g h : Bool) (m n : Nat) : sgnd g m * sgnd h n = sgnd (g != h) (m * n) := by
  unfold sgnd; cases g <;> cases h <;> simp [Int.mul_neg, Int.neg_mul]
/-- A product is made of the product of the values. -/
theorem mul_iv {a b : Dy} (ha : a.Ok) (hb : b.Ok) : mulD a b = mkZ (iv a * iv b) (EE + EE) ∧ mulE a b = mkZE (iv a * iv b) (EE + EE) := by
  have hax : -1048576 ≤ a.x := by
    rcases ha with rfl | h
    · show (-1048576 : Int) ≤ 0; decide
    · exact h.2.2.1
  have hbx : -1048576 ≤ b.x := by
    rcases hb with rfl | h
    · show (-1048576 : Int) ≤ 0; decide
    · exact h.2.2.1
  have h := mk_toZ (a.g != b.g) (a.n * b.n) (a.x + b.x) (EE + EE) (by rw [EE_eq]; omega)
  rw [mulD_eq, mulE_eq, h.1, h.2]
  unfold iv
  rw [sgnd_mul, show (a.x + b.x + ((EE + EE : Nat) : Int)).toNat = (a.x + (EE : Int)).toNat + (b.x + (EE : Int)).toNat by rw [EE_eq]; omega, Nat.pow_add]
  have e : a.n * b.n * (2 ^ (a.x + (EE : Int)).toNat * 2 ^ (b.x + (EE : Int)).toNat) = a.n * 2 ^ (a.x + (EE : Int)).toNat * (b.n * 2 ^ (b.x + (EE : Int)).toNat) := by
    simp only [Nat.mul_assoc, Nat.mul_left_comm]
  rw [e]; exact ⟨rfl, rfl⟩
theorem sgnd_f (m : Nat) : sgnd false m = (m : Int) := rfl
theorem sgnd_t (m : Nat) : sgnd true m = -(m : Int) := rfl
def sgI (z : Int) : Int := if z < 0 then -1 else if 0 < z then 1 else 0
theorem iv_pos {d : Dy} (h : d.Num) : 0 < d.n * 2 ^ (d.x + (EE : Int)).toNat := Nat.mul_pos (Nat.pos_of_ne_zero (odd_ne h.2.1)) (Nat.two_pow_pos _)
theorem sgD_iv {d : Dy} (h : d.Ok) : sgD d = sgI (iv d) := by
  rcases h with rfl | h
  · rw [sgD_zero, iv_zero]; rfl
  · have hp := iv_pos h
    rw [sgD_num (odd_ne h.2.1)]
    unfold iv
    generalize d.n * 2 ^ (d.x + (EE : Int)).toNat = m at *
    unfold sgI
    cases d.g
    · rw [sgn_f, sgnd_f, if_neg (by omega), if_pos (by omega)]
    · rw [sgn_t, sgnd_t, if_pos (by omega)]
theorem cmp_mul (a b c : Nat) (hc : 0 < c) : cmpN (a * c) (b * c) = cmpN a b := by
  rcases Nat.lt_trichotomy a b with h | h | h
  · rw [cmpN_lt h, cmpN_lt (Nat.mul_lt_mul_of_pos_right h hc)]
  · rw [h, cmpN_eq, cmpN_eq]
  · rw [cmpN_gt h, cmpN_gt (Nat.mul_lt_mul_of_pos_right h hc)]
/-- The magnitudes' order is that of the values. -/
theorem mag_iv {a b : Dy} (ha : a.Num) (hb : b.Num) : magC a b = cmpN (a.n * 2 ^ (a.x + (EE : Int)).toNat) (b.n * 2 ^ (b.x + (EE : Int)).toNat) := by
  have hax := ha.2.2
  have hbx := hb.2.2
  obtain ⟨i, hi⟩ : ∃ i, i = (a.x + (EE : Int)).toNat := ⟨_, rfl⟩
  obtain ⟨j, hj⟩ : ∃ j, j = (b.x + (EE : Int)).toNat := ⟨_, rfl⟩
  have hie : a.x = (i : Int) - (EE : Int) := by rw [EE_eq] at *; omega
  have hje : b.x = (j : Int) - (EE : Int) := by rw [EE_eq] at *; omega
  have na := nd_mul_pow (j := i) (odd_ne ha.2.1)
  have nb := nd_mul_pow (j := j) (odd_ne hb.2.1)
  rw [← hi, ← hj]
  rcases Int.lt_trichotomy (topD a) (topD b) with h | h | h
  · rw [magC_lt h]
    rw [topD_eq, topD_eq] at h
    exact (cmpN_lt (lt_of_nd (b := 2) (by omega) (by omega))).symm
  · rw [magC_eq h, upN_eq, upN_eq]
    by_cases hx : j ≤ i
    · rw [show (a.x - b.x).toNat = i - j by omega, show (b.x - a.x).toNat = 0 by omega, Nat.pow_zero, Nat.mul_one, ← cmp_mul _ _ (2 ^ j) (Nat.two_pow_pos j), Nat.mul_assoc, ← Nat.pow_add, show i - j + j = i by omega]
    · rw [show (a.x - b.x).toNat = 0 by omega, show (b.x - a.x).toNat = j - i by omega, Nat.pow_zero, Nat.mul_one, ← cmp_mul _ _ (2 ^ i) (Nat.two_pow_pos i), Nat.mul_assoc, ← Nat.pow_add, show j - i + i = j by omega]
  · rw [magC_gt h]
    rw [topD_eq, topD_eq] at h
    exact (cmpN_gt (lt_of_nd (b := 2) (by omega) (by omega))).symm
/-- The order is that of the values. -/
theorem cmp_iv {a b : Dy} (ha : a.Ok) (hb : b.Ok) : cmpD a b = sgI (iv a - iv b) := by
  have sa := sgD_iv ha
  have sb := sgD_iv hb
  rcases Int.lt_trichotomy (sgD a) (sgD b) with h | h | h
  · rw [cmpD_lt h]
    rw [sa, sb] at h
    unfold sgI at h ⊢
    rw [if_pos (by split at h <;> split at h <;> (try split at h) <;> (try split at h) <;> omega)]
  · by_cases h0 : sgD a = 0
    · rw [cmpD_zero h h0, Dy.zero_of ha h0, Dy.zero_of hb (h ▸ h0), iv_zero]; rfl
    · rw [cmpD_eq h h0]
      have na := Dy.num_of ha h0
      have nb := Dy.num_of hb (h ▸ h0)
      rw [mag_iv na nb, sgD_num (odd_ne na.2.1)]
      have hg : sgnI a.g = sgnI b.g := by rw [← sgD_num (odd_ne na.2.1), ← sgD_num (odd_ne nb.2.1)]; exact h
      have hg2 : a.g = b.g := by
        revert hg
        cases a.g <;> cases b.g <;> simp [sgn_t, sgn_f]
      unfold iv
      rw [← hg2]
      generalize a.n * 2 ^ (a.x + (EE : Int)).toNat = m
      generalize b.n * 2 ^ (b.x + (EE : Int)).toNat = n
      unfold sgI
      rcases Nat.lt_trichotomy m n with c | c | c
      · rw [cmpN_lt c]
        cases a.g
        · rw [sgn_f, sgnd_f, sgnd_f, if_pos (by omega)]; rfl
        · rw [sgn_t, sgnd_t, sgnd_t, if_neg (by omega), if_pos (by omega)]; rfl
      · rw [c, cmpN_eq, Int.mul_zero, if_neg (by omega), if_neg (by omega)]
      · rw [cmpN_gt c]
        cases a.g
        · rw [sgn_f, sgnd_f, sgnd_f, if_neg (by omega), if_pos (by omega)]; rfl
        · rw [sgn_t, sgnd_t, sgnd_t, if_pos (by omega)]; rfl
  · rw [cmpD_gt h]
    rw [sa, sb] at h
    unfold sgI at h ⊢
    rw [if_neg (by split at h <;> split at h <;> (try split at h) <;> (try split at h) <;> omega), if_pos (by split at h <;> split at h <;> (try split at h) <;> (try split at h) <;> omega)]
end Go.Proofs.YtjalpocjgpgcfaaGreatDoor
/-! What DyadRing says, of numbers alone. -/
set_option autoImplicit false
namespace Go.Proofs.YtjalpocjgpgcfaaGreatDoor
open Go
theorem iv_add {a b : Dy} (ha : a.Ok) (hb : b.Ok) (h : addE a b = 0) : iv (addD a b) = iv a + iv b := by
  have e := add_iv ha hb
  rw [e.1]; rw [e.2] at h; exact mk_iv h
theorem iv_mul {a b : Dy} (ha : a.Ok) (hb : b.Ok) (h : mulE a b = 0) : iv (mulD a b) * 2 ^ EE = iv a * iv b := by
  have e := mul_iv ha hb
  rw [e.1]; rw [e.2] at h; exact mk_iv2 h
theorem add_comm3 {a b : Dy} (ha : a.Ok) (hb : b.Ok) : addD a b = addD b a ∧ addE a b = addE b a := by
  rw [(add_iv ha hb).1, (add_iv ha hb).2, (add_iv hb ha).1, (add_iv hb ha).2, Int.add_comm]; exact ⟨rfl, rfl⟩
theorem mul_comm3 {a b : Dy} (ha : a.Ok) (hb : b.Ok) : mulD a b = mulD b a ∧ mulE a b = mulE b a := by
  rw [(mul_iv ha hb).1, (mul_iv ha hb).2, (mul_iv hb ha).1, (mul_iv hb ha).2, Int.mul_comm]; exact ⟨rfl, rfl⟩
theorem sgI_zero {z : Int} : sgI z = 0 ↔ z = 0 := by
  unfold sgI
  by_cases h : z < 0
  · rw [if_pos h]; omega
  · rw [if_neg h]
    by_cases h2 : 0 < z
    · rw [if_pos h2]; omega
    · rw [if_neg h2]; omega
theorem mul_sg {a b : Dy} (ha : a.Ok) (hb : b.Ok) (h : mulE a b = 0) : sgD (mulD a b) = 0 ↔ (sgD a = 0 ∨ sgD b = 0) := by
  rw [sgD_iv ha, sgD_iv hb, sgD_iv (mulD_Ok a b), sgI_zero, sgI_zero, sgI_zero]
  have e := iv_mul ha hb h
  have hp : (2 : Int) ^ EE ≠ 0 := Int.pow_ne_zero (by decide)
  constructor
  · intro h0
    rw [h0, Int.zero_mul] at e
    exact Int.mul_eq_zero.mp e.symm
  · intro h0
    have : iv a * iv b = 0 := Int.mul_eq_zero.mpr h0
    rw [this] at e
    exact (Int.mul_eq_zero.mp e).resolve_right hp
theorem sub_back {a b : Dy} (ha : a.Ok) (hb : b.Ok) (h : addE a b = 0) : addD (addD a b) (negD b) = a ∧ addE (addD a b) (negD b) = 0 := by
  have e := add_iv (add_Ok ha hb) (negD_Ok hb)
  rw [e.1, e.2, iv_neg, iv_add ha hb h, show iv a + iv b + -iv b = iv a by omega]
  exact iv_mk ha
theorem sub_cmp {a b : Dy} (ha : a.Ok) (hb : b.Ok) (h : addE a (negD b) = 0) : sgD (addD a (negD b)) = cmpD a b := by
  rw [sgD_iv (add_Ok ha (negD_Ok hb)), iv_add ha (negD_Ok hb) h, iv_neg, cmp_iv ha hb, Int.sub_eq_add_neg]
theorem distr {a b c : Dy} (ha : a.Ok) (hb : b.Ok) (hc : c.Ok) (h1 : addE a b = 0) (h2 : mulE (addD a b) c = 0) (h3 : mulE a c = 0) (h4 : mulE b c = 0) (h5 : addE (mulD a c) (mulD b c) = 0) :
    mulD (addD a b) c = addD (mulD a c) (mulD b c) := by
  have hp : (2 : Int) ^ EE ≠ 0 := Int.pow_ne_zero (by decide)
  have e1 := iv_mul (add_Ok ha hb) hc h2
  rw [iv_add ha hb h1, Int.add_mul, ← iv_mul ha hc h3, ← iv_mul hb hc h4, ← Int.add_mul, ← iv_add (mulD_Ok a c) (mulD_Ok b c) h5] at e1
  exact iv_inj (mulD_Ok _ _) (add_Ok (mulD_Ok _ _) (mulD_Ok _ _)) (Int.eq_of_mul_eq_mul_right hp e1)
theorem cmp_le {a b : Dy} (ha : a.Ok) (hb : b.Ok) (h : iv a ≤ iv b) : cmpD a b ≤ 0 := by
  rw [cmp_iv ha hb]; unfold sgI
  by_cases h2 : iv a - iv b < 0
  · rw [if_pos h2]; decide
  · rw [if_neg h2, if_neg (by omega)]; decide
theorem cmp_gt {a b : Dy} (ha : a.Ok) (hb : b.Ok) (h : iv b < iv a) : 0 < cmpD a b := by
  rw [cmp_iv ha hb]; unfold sgI
  rw [if_neg (by omega), if_pos (by omega)]; decide
/-- A number that Make makes, by its value. -/
theorem iv_made {g : Bool} {n : Nat} {x : Int} (hx : -1048576 ≤ x) (h : mkE n x = 0) : iv (mkD g n x) = sgnd g (n * 2 ^ (x + (EE : Int)).toNat) := by
  have e := mk_toZ g n x EE (by rw [EE_eq]; omega)
  rw [e.1]; rw [e.2] at h; exact mk_iv h
theorem made_x {g : Bool} {n : Nat} {x : Int} (h : mkE n x = 0) : mkD g n x = Dy.zero ∨ x ≤ (mkD g n x).x := by
  by_cases h0 : n = 0
  · left; rw [h0, mkD_zero]
  · right
    have hk : mkOk3 n x := Classical.byContradiction fun c => absurd (h.symm.trans (mkE_no c)) (by decide)
    rw [mkD_ok h0 hk]
    show x ≤ x + (lowN n : Int)
    omega
theorem fl_nums (n Q P : Nat) (ho : n % 2 = 1) (hQ : Q % 2 = 0) (hQ0 : 0 < Q) (hP : 0 < P) :
    n / Q * (Q * P) ≤ n * P ∧ n * P < n / Q * (Q * P) + Q * P ∧ n / Q * (Q * P) < n * P := by
  have h1 : n / Q * Q + n % Q = n := by rw [Nat.mul_comm]; exact Nat.div_add_mod n Q
  have h2 := Nat.mod_lt n hQ0
  have h3 : 0 < n % Q := by
    apply Nat.pos_of_ne_zero
    intro c
    rw [c, Nat.add_zero] at h1
    have : n % 2 = 0 := by rw [← h1, Nat.mul_mod, hQ, Nat.mul_zero, Nat.zero_mod]
    omega
  have e : n * P = n / Q * (Q * P) + n % Q * P := by
    conv => lhs; rw [← h1, Nat.add_mul, Nat.mul_assoc]
  have l1 : n % Q * P < Q * P := Nat.mul_lt_mul_of_pos_right h2 hP
  have l2 : 0 < n % Q * P := Nat.mul_pos h3 hP
  rw [e]
  refine ⟨Nat.le_add_right _ _, Nat.add_lt_add_left l1 _, Nat.lt_add_of_pos_right l2⟩
theorem fl_iv {a : Dy} {k : Int} (ha : a.Ok) (h : flE a k = 0) (h1 : mkE 1 k = 0) : iv (flD a k) ≤ iv a ∧ iv a < iv (flD a k) + iv (mkD false 1 k) ∧ (flD a k = Dy.zero ∨ k ≤ (flD a k).x) := by
  by_cases hr : k < -1048576 ∨ 1048576 < k
  · rw [(fl_out hr).2] at h; exact absurd h (by decide)
  · have hk : -1048576 ≤ k := by omega
    rw [iv_made hk h1, sgnd_f]
    by_cases h2 : a.n = 0 ∨ k ≤ a.x
    · rw [(fl_self hr h2).1]
      have hp : 0 < 1 * 2 ^ (k + (EE : Int)).toNat := Nat.mul_pos (by decide) (Nat.two_pow_pos _)
      generalize 1 * 2 ^ (k + (EE : Int)).toNat = q at *
      refine ⟨Int.le_refl _, by omega, ?_⟩
      rcases ha with ha | ha
      · exact Or.inl ha
      · rcases h2 with h2 | h2
        · exact absurd h2 (odd_ne ha.2.1)
        · exact Or.inr h2
    · have hN : a.Num := by
        rcases ha with rfl | ha
        · exact absurd (Or.inl rfl) h2
        · exact ha
      have hx : a.x < k := by omega
      rw [(fl_mk hr h2).2] at h
      rw [(fl_mk hr h2).1]
      refine (and_assoc.mp ⟨?_, made_x h⟩)
      rw [iv_made hk h]
      unfold iv flN
      have hx1 := hN.2.2.1
      obtain ⟨j, hj⟩ : ∃ j, j = (k - a.x).toNat := ⟨_, rfl⟩
      have hj0 : 0 < j := by omega
      rw [show (k + (EE : Int)).toNat = j + (a.x + (EE : Int)).toNat by rw [EE_eq]; omega, Nat.pow_add, ← hj]
      have hQ : 2 ^ j % 2 = 0 := by
        obtain ⟨i, rfl⟩ : ∃ i, j = i + 1 := ⟨j - 1, by omega⟩
        rw [Nat.pow_succ, Nat.mul_mod_left]
      have F := fl_nums a.n (2 ^ j) (2 ^ (a.x + (EE : Int)).toNat) hN.2.1 hQ (Nat.two_pow_pos _) (Nat.two_pow_pos _)
      clear h hx hj hQ
      generalize 2 ^ j = Q at *
      generalize 2 ^ (a.x + (EE : Int)).toNat = P at *
      cases a.g
      · rw [sgnd_f, sgnd_f, if_neg (by decide), Nat.add_zero, Nat.one_mul]
        generalize a.n / Q * (Q * P) = A at *
        generalize a.n * P = B at *
        generalize Q * P = C at *
        omega
      · rw [sgnd_t, sgnd_t, if_pos rfl, Nat.one_mul, Nat.add_mul, Nat.one_mul]
        generalize a.n / Q * (Q * P) = A at *
        generalize a.n * P = B at *
        generalize Q * P = C at *
        omega
theorem ring_floor {a : Dy} {k : Int} (ha : a.Ok) (h : flE a k = 0) (h1 : mkE 1 k = 0) (h2 : addE (flD a k) (mkD false 1 k) = 0) (hl : (flD a k).Ok) :
    cmpD (flD a k) a ≤ 0 ∧ 0 < cmpD (addD (flD a k) (mkD false 1 k)) a ∧ (flD a k = Dy.zero ∨ k ≤ (flD a k).x) := by
  have F := fl_iv ha h h1
  have ho := mkD_Ok false 1 k
  refine ⟨cmp_le hl ha F.1, cmp_gt (add_Ok hl ho) ha ?_, F.2.2⟩
  rw [iv_add hl ho h2]; exact F.2.1
end Go.Proofs.YtjalpocjgpgcfaaGreatDoor
set_option linter.unusedVariables false
set_option linter.unusedSimpArgs false
namespace Go.Proofs.YtjalpocjgpgcfaaGreatDoor
open Go Go.RowKit Nt

structure Gs where
  re : Dy
  im : Dy
def Gs.v (a : Gs) : Value := .agg #[.bool a.re.g, .string (natS a.re.n), .int .i64 a.re.x, .bool a.im.g, .string (natS a.im.n), .int .i64 a.im.x]
def Gs.zero : Gs := ⟨Dy.zero, Dy.zero⟩
theorem Gs.zero_v : Gs.zero.v = .agg #[.bool false, .string ⟨#[]⟩, .int .i64 0, .bool false, .string ⟨#[]⟩, .int .i64 0] := by
  show Value.agg #[.bool false, .string (natS 0), .int .i64 0, .bool false, .string (natS 0), .int .i64 0] = _
  rw [natS_zero]
def Gs.Ok (a : Gs) : Prop := a.re.Ok ∧ a.im.Ok
theorem Gs.zero_Ok : Gs.zero.Ok := ⟨Or.inl rfl, Or.inl rfl⟩
structure Gt where
  re : Dt
  im : Dt
def Gt.v (a : Gt) : Value := .agg #[.bool a.re.g, .string a.re.s, .int .i64 a.re.x, .bool a.im.g, .string a.im.s, .int .i64 a.im.x]
def Dt.zero : Dt := ⟨false, ⟨#[]⟩, 0⟩
theorem Dt.zero_v : Dt.zero.v = .agg #[.bool false, .string ⟨#[]⟩, .int .i64 0] := rfl
theorem Dt.zero_Ok : Dt.zero.Ok := Or.inl ⟨rfl, rfl, rfl⟩
def Gt.zero : Gt := ⟨Dt.zero, Dt.zero⟩
theorem Gt.zero_v : Gt.zero.v = .agg #[.bool false, .string ⟨#[]⟩, .int .i64 0, .bool false, .string ⟨#[]⟩, .int .i64 0] := rfl
def Gt.Ok (a : Gt) : Prop := a.re.Ok ∧ a.im.Ok
def Gt.Small (a : Gt) : Prop := a.re.s.size ≤ 9223372036854775807 ∧ a.im.s.size ≤ 9223372036854775807
def Gs.t (a : Gs) : Gt := ⟨a.re.t, a.im.t⟩
theorem Gs.ok_t {a : Gs} (h : a.Ok) : a.t.Ok := ⟨Dy.ok_t h.1, Dy.ok_t h.2⟩
theorem Gt.gs {a : Gt} (h : a.Ok) : ∃ d : Gs, d.Ok ∧ a = d.t := by
  obtain ⟨r, i⟩ := a
  obtain ⟨x, h1, h2⟩ := Dt.dy h.1
  obtain ⟨y, h3, h4⟩ := Dt.dy h.2
  simp only at h2 h4
  exact ⟨⟨x, y⟩, ⟨h1, h3⟩, by rw [h2, h4]; rfl⟩

open Classical in
@[irreducible] noncomputable def gE (a : Gt) : Int := if a.Ok then 0 else 2
theorem gE_ok {a : Gt} (h : a.Ok) : gE a = 0 := by unfold gE; rw [if_pos h]
theorem gE_no {a : Gt} (h : ¬ a.Ok) : gE a = 2 := by unfold gE; rw [if_neg h]
theorem dE1 {t : Dt} : dE [t] = 0 ↔ t.Ok := by
  constructor
  · intro h
    by_cases hn : t.Ok
    · exact hn
    · rw [dE_no (List.mem_singleton.2 rfl) hn] at h; cases h
  · intro h
    exact dE_ok fun u hu => by rw [List.mem_singleton.1 hu]; exact h
theorem DCheckT_no (t : Dt) (w : World) (hs : t.s.size ≤ 9223372036854775807) (hn : ¬ t.Ok) : Calls Tryz.prog 30 #[.agg #[.bool t.g, .string t.s, .int .i64 t.x]] w fun e w' => e = .returned (.int .i64 2) ∧ Below w.heap.size w w' := by
  have h := DCheck_c t w hs
  rwa [dE_no (List.mem_singleton.2 rfl) hn] at h
theorem DCheck_dy (a : Dy) (ha : a.Ok) (w : World) : Calls Tryz.prog 30 #[.agg #[.bool a.g, .string (natS a.n), .int .i64 a.x]] w fun e w' => e = .returned (.int .i64 0) ∧ Below w.heap.size w w' := by
  have h := DCheck_c a.t w (by have := Dy.small ha; show (natS a.n).size ≤ _; omega)
  rwa [dE_ok (fun t ht => by rw [List.mem_singleton.1 ht]; exact Dy.ok_t ha)] at h
theorem eqG_run {g g' k k' : Bool} {s s' r r' : ByteArray} {x x' y y' : Int} {c : Bool} (h : c = true ↔ ((g = g' ∧ s = s' ∧ x = x') ∧ (k = k' ∧ r = r' ∧ y = y'))) (p q : Operand) (w : World) : (do eqGuard .eql 28 p q (.agg #[.bool g, .string s, .int .i64 x, .bool k, .string r, .int .i64 y]) (.agg #[.bool g', .string s', .int .i64 x', .bool k', .string r', .int .i64 y']); binOp .eql 28 (.agg #[.bool g, .string s, .int .i64 x, .bool k, .string r, .int .i64 y]) (.agg #[.bool g', .string s', .int .i64 x', .bool k', .string r', .int .i64 y'])).run Tryz.prog w = .ok (.bool c) w := by
  have hs : s.toList = s'.toList ↔ s = s' := ⟨str_inj, fun h => by rw [h]⟩
  have hr : r.toList = r'.toList ↔ r = r' := ⟨str_inj, fun h => by rw [h]⟩
  go_simp
  cases c with
  | true =>
    obtain ⟨⟨rfl, rfl, rfl⟩, rfl, rfl, rfl⟩ := h.1 rfl
    simp
  | false =>
    have hn : ¬ ((g = g' ∧ s = s' ∧ x = x') ∧ (k = k' ∧ r = r' ∧ y = y')) := fun e => Bool.false_ne_true (h.2 e)
    repeat' split
    all_goals first
      | rfl
      | exact absurd ⟨⟨by assumption, by assumption, by assumption⟩, by assumption, by assumption, by assumption⟩ hn
theorem neG_run {g g' k k' : Bool} {s s' r r' : ByteArray} {x x' y y' : Int} {c : Bool} (h : c = true ↔ ((g = g' ∧ s = s' ∧ x = x') ∧ (k = k' ∧ r = r' ∧ y = y'))) (p q : Operand) (w : World) : (do eqGuard .neq 28 p q (.agg #[.bool g, .string s, .int .i64 x, .bool k, .string r, .int .i64 y]) (.agg #[.bool g', .string s', .int .i64 x', .bool k', .string r', .int .i64 y']); binOp .neq 28 (.agg #[.bool g, .string s, .int .i64 x, .bool k, .string r, .int .i64 y]) (.agg #[.bool g', .string s', .int .i64 x', .bool k', .string r', .int .i64 y'])).run Tryz.prog w = .ok (.bool (!c)) w := by
  have hs : s.toList = s'.toList ↔ s = s' := ⟨str_inj, fun h => by rw [h]⟩
  have hr : r.toList = r'.toList ↔ r = r' := ⟨str_inj, fun h => by rw [h]⟩
  go_simp
  cases c with
  | true =>
    obtain ⟨⟨rfl, rfl, rfl⟩, rfl, rfl, rfl⟩ := h.1 rfl
    simp
  | false =>
    have hn : ¬ ((g = g' ∧ s = s' ∧ x = x') ∧ (k = k' ∧ r = r' ∧ y = y')) := fun e => Bool.false_ne_true (h.2 e)
    repeat' split
    all_goals first
      | rfl
      | exact absurd ⟨⟨by assumption, by assumption, by assumption⟩, by assumption, by assumption, by assumption⟩ hn
theorem Gs.ext_iff' {a b : Gs} : ((a.re.g = b.re.g ∧ natS a.re.n = natS b.re.n ∧ a.re.x = b.re.x) ∧ (a.im.g = b.im.g ∧ natS a.im.n = natS b.im.n ∧ a.im.x = b.im.x)) ↔ a = b := by
  rw [Dy.ext_iff', Dy.ext_iff']
  obtain ⟨r, i⟩ := a
  obtain ⟨r', i'⟩ := b
  simp
theorem Dt.ext_iff' {a b : Dt} : (a.g = b.g ∧ a.s = b.s ∧ a.x = b.x) ↔ a = b := by
  obtain ⟨g, n, x⟩ := a
  obtain ⟨g', n', x'⟩ := b
  simp
theorem Gt.ext_iff' {a b : Gt} : ((a.re.g = b.re.g ∧ a.re.s = b.re.s ∧ a.re.x = b.re.x) ∧ (a.im.g = b.im.g ∧ a.im.s = b.im.s ∧ a.im.x = b.im.x)) ↔ a = b := by
  rw [Dt.ext_iff', Dt.ext_iff']
  obtain ⟨r, i⟩ := a
  obtain ⟨r', i'⟩ := b
  simp
section
variable [Env]
theorem optG_eql_i {A B : AV} {a b : Gs} {c : Bool} (ha : gval A = a.v) (hb : gval B = b.v) (h : c = true ↔ a = b) : OpT Tryz.prog [0, 11, 28] [A, B] (.lit (.bool c)) :=
  opt_bin (op := .eql) rfl fun p q w => by rw [ha, hb]; exact eqG_run (h.trans Gs.ext_iff'.symm) p q w
theorem optG_neq_i {A B : AV} {a b : Gs} {c : Bool} (ha : gval A = a.v) (hb : gval B = b.v) (h : c = true ↔ a = b) : OpT Tryz.prog [0, 12, 28] [A, B] (.lit (.bool (!c))) :=
  opt_bin (op := .neq) rfl fun p q w => by rw [ha, hb]; exact neG_run (h.trans Gs.ext_iff'.symm) p q w
theorem optU_eql_i {A B : AV} {a b : Gt} {c : Bool} (ha : gval A = a.v) (hb : gval B = b.v) (h : c = true ↔ a = b) : OpT Tryz.prog [0, 11, 28] [A, B] (.lit (.bool c)) :=
  opt_bin (op := .eql) rfl fun p q w => by rw [ha, hb]; exact eqG_run (h.trans Gt.ext_iff'.symm) p q w
theorem optG_eql_t {A B : AV} {a b : Gs} (ha : gval A = a.v) (hb : gval B = b.v) (h : a = b) : OpT Tryz.prog [0, 11, 28] [A, B] (.lit (.bool true)) :=
  opt_bin (op := .eql) rfl fun p q w => by rw [ha, hb]; exact eqG_run (c := true) ⟨fun _ => Gs.ext_iff'.2 h, fun _ => rfl⟩ p q w
theorem optG_eql_f {A B : AV} {a b : Gs} (ha : gval A = a.v) (hb : gval B = b.v) (h : ¬ a = b) : OpT Tryz.prog [0, 11, 28] [A, B] (.lit (.bool false)) :=
  opt_bin (op := .eql) rfl fun p q w => by rw [ha, hb]; exact eqG_run (c := false) ⟨(fun c => by cases c), fun c => absurd (Gs.ext_iff'.1 c) h⟩ p q w
theorem optG_neq_t {A B : AV} {a b : Gs} (ha : gval A = a.v) (hb : gval B = b.v) (h : ¬ a = b) : OpT Tryz.prog [0, 12, 28] [A, B] (.lit (.bool true)) :=
  opt_bin (op := .neq) rfl fun p q w => by rw [ha, hb]; exact neG_run (c := false) ⟨(fun c => by cases c), fun c => absurd (Gs.ext_iff'.1 c) h⟩ p q w
theorem optG_neq_f {A B : AV} {a b : Gs} (ha : gval A = a.v) (hb : gval B = b.v) (h : a = b) : OpT Tryz.prog [0, 12, 28] [A, B] (.lit (.bool false)) :=
  opt_bin (op := .neq) rfl fun p q w => by rw [ha, hb]; exact neG_run (c := true) ⟨fun _ => Gs.ext_iff'.2 h, fun _ => rfl⟩ p q w
theorem optU_eql_t {A B : AV} {a b : Gt} (ha : gval A = a.v) (hb : gval B = b.v) (h : a = b) : OpT Tryz.prog [0, 11, 28] [A, B] (.lit (.bool true)) :=
  opt_bin (op := .eql) rfl fun p q w => by rw [ha, hb]; exact eqG_run (c := true) ⟨fun _ => Gt.ext_iff'.2 h, fun _ => rfl⟩ p q w
theorem optU_eql_f {A B : AV} {a b : Gt} (ha : gval A = a.v) (hb : gval B = b.v) (h : ¬ a = b) : OpT Tryz.prog [0, 11, 28] [A, B] (.lit (.bool false)) :=
  opt_bin (op := .eql) rfl fun p q w => by rw [ha, hb]; exact eqG_run (c := false) ⟨(fun c => by cases c), fun c => absurd (Gt.ext_iff'.1 c) h⟩ p q w
end
end Go.Proofs.YtjalpocjgpgcfaaGreatDoor
set_option linter.unusedVariables false
set_option linter.unusedSimpArgs false
namespace Go.Proofs.YtjalpocjgpgcfaaGreatDoor
open Go Go.RowKit Nt

def All0 : List Int → Prop
  | [] => True
  | t :: l => t = 0 ∧ All0 l
instance All0.dec : ∀ l, Decidable (All0 l)
  | [] => .isTrue trivial
  | t :: l => @instDecidableAnd _ _ _ (All0.dec l)
/-- The first error of these; the answer, if there is none. -/
@[irreducible] def erI (l : List Int) : Int := if All0 l then 0 else 4
@[irreducible] def erD (l : List Int) (d : Dy) : Dy := if All0 l then d else Dy.zero
@[irreducible] def erG (l : List Int) (d : Gs) : Gs := if All0 l then d else Gs.zero
theorem erI_ok {l : List Int} (h : All0 l) : erI l = 0 := by unfold erI; exact if_pos h
theorem erI_no {l : List Int} (h : ¬ All0 l) : erI l = 4 := by unfold erI; exact if_neg h
theorem erD_ok {l : List Int} {d : Dy} (h : All0 l) : erD l d = d := by unfold erD; exact if_pos h
theorem erD_no {l : List Int} {d : Dy} (h : ¬ All0 l) : erD l d = Dy.zero := by unfold erD; exact if_neg h
theorem erG_ok {l : List Int} {d : Gs} (h : All0 l) : erG l d = d := by unfold erG; exact if_pos h
theorem erG_no {l : List Int} {d : Gs} (h : ¬ All0 l) : erG l d = Gs.zero := by unfold erG; exact if_neg h
theorem erI_zero {l : List Int} : erI l = 0 ↔ All0 l := by
  by_cases h : All0 l
  · rw [erI_ok h]; simp [h]
  · rw [erI_no h]; simp [h]
theorem erD_Ok {l : List Int} {d : Dy} (h : d.Ok) : (erD l d).Ok := by
  by_cases c : All0 l
  · rw [erD_ok c]; exact h
  · rw [erD_no c]; exact Or.inl rfl
theorem erG_Ok {l : List Int} {d : Gs} (h : d.Ok) : (erG l d).Ok := by
  by_cases c : All0 l
  · rw [erG_ok c]; exact h
  · rw [erG_no c]; exact Gs.zero_Ok
theorem mkE4 {n : Nat} {x : Int} (h : ¬ mkE n x = 0) : mkE n x = 4 := by
  by_cases c : mkOk3 n x
  · exact absurd (mkE_ok c) h
  · exact mkE_no c
theorem mulE4 {a b : Dy} (h : ¬ mulE a b = 0) : mulE a b = 4 := by rw [mulE_eq] at h ⊢; exact mkE4 h
theorem addE4 {a b : Dy} (h : ¬ addE a b = 0) : addE a b = 4 := by
  by_cases h0 : a.n = 0
  · exact absurd (add_zl h0).2 h
  · by_cases h1 : b.n = 0
    · exact absurd (add_zr h0 h1).2 h
    · by_cases h2 : a.x < b.x
      · rw [(add_lt h0 h1 h2).2, hiE_eq] at h ⊢; exact mkE4 h
      · rw [(add_ge h0 h1 h2).2, hiE_eq] at h ⊢; exact mkE4 h
def neG (a : Gs) : Gs := ⟨negD a.re, negD a.im⟩
theorem neG_Ok {a : Gs} (h : a.Ok) : (neG a).Ok := ⟨negD_Ok h.1, negD_Ok h.2⟩
def conjG (a : Gs) : Gs := ⟨a.re, negD a.im⟩
theorem conjG_Ok {a : Gs} (h : a.Ok) : (conjG a).Ok := ⟨h.1, negD_Ok h.2⟩
def turnG (a : Gs) : Gs := ⟨negD a.im, a.re⟩
theorem turnG_Ok {a : Gs} (h : a.Ok) : (turnG a).Ok := ⟨negD_Ok h.2, h.1⟩
/-- Sums, products: the errors on the way, the answer. -/
def gaddL (a b : Gs) : List Int := [addE a.re b.re, addE a.im b.im]
def gaddD (a b : Gs) : Gs := erG (gaddL a b) ⟨addD a.re b.re, addD a.im b.im⟩
def gaddE (a b : Gs) : Int := erI (gaddL a b)
theorem gaddD_Ok {a b : Gs} (ha : a.Ok) (hb : b.Ok) : (gaddD a b).Ok := erG_Ok ⟨add_Ok ha.1 hb.1, add_Ok ha.2 hb.2⟩
def twoL (a b c d : Dy) : List Int := [mulE a b, mulE c d, addE (mulD a b) (mulD c d)]
def twoD (a b c d : Dy) : Dy := addD (mulD a b) (mulD c d)
def lesL (a b c d : Dy) : List Int := [mulE a b, mulE c d, addE (mulD a b) (negD (mulD c d))]
def lesD (a b c d : Dy) : Dy := addD (mulD a b) (negD (mulD c d))
theorem twoD_Ok (a b c d : Dy) : (twoD a b c d).Ok := add_Ok (mulD_Ok _ _) (mulD_Ok _ _)
theorem lesD_Ok (a b c d : Dy) : (lesD a b c d).Ok := add_Ok (mulD_Ok _ _) (negD_Ok (mulD_Ok _ _))
def gmulL (a b : Gs) : List Int := lesL a.re b.re a.im b.im ++ twoL a.re b.im a.im b.re
def gmulD (a b : Gs) : Gs := erG (gmulL a b) ⟨lesD a.re b.re a.im b.im, twoD a.re b.im a.im b.re⟩
def gmulE (a b : Gs) : Int := erI (gmulL a b)
theorem gmulD_Ok (a b : Gs) : (gmulD a b).Ok := erG_Ok ⟨lesD_Ok _ _ _ _, twoD_Ok _ _ _ _⟩
def gscL (a : Gs) (d : Dy) : List Int := [mulE a.re d, mulE a.im d]
def gscD (a : Gs) (d : Dy) : Gs := erG (gscL a d) ⟨mulD a.re d, mulD a.im d⟩
def gscE (a : Gs) (d : Dy) : Int := erI (gscL a d)
theorem gscD_Ok (a : Gs) (d : Dy) : (gscD a d).Ok := erG_Ok ⟨mulD_Ok _ _, mulD_Ok _ _⟩
def dotD (a b : Gs) : Dy := erD (twoL a.re b.re a.im b.im) (twoD a.re b.re a.im b.im)
def dotE (a b : Gs) : Int := erI (twoL a.re b.re a.im b.im)
theorem dotD_Ok (a b : Gs) : (dotD a b).Ok := erD_Ok (twoD_Ok _ _ _ _)
def crossD (a b : Gs) : Dy := erD (lesL a.re b.im a.im b.re) (lesD a.re b.im a.im b.re)
def crossE (a b : Gs) : Int := erI (lesL a.re b.im a.im b.re)
theorem crossD_Ok (a b : Gs) : (crossD a b).Ok := erD_Ok (lesD_Ok _ _ _ _)
end Go.Proofs.YtjalpocjgpgcfaaGreatDoor
set_option linter.unusedVariables false
set_option linter.unusedSimpArgs false
namespace Go.Proofs.YtjalpocjgpgcfaaGreatDoor
open Go Go.RowKit Nt


@[reducible] noncomputable def GCheck_c_k1 : Know := ⟨[([0, 11, 28], [.agg [.sym 0, .sym 1, .sym 2, .sym 3, .sym 4, .sym 5], .lit (.agg #[.bool false, .string ⟨#[]⟩, .int .i64 0, .bool false, .string ⟨#[]⟩, .int .i64 0])], .lit (.bool true))],
  []⟩
theorem GCheck_c_r1 : @comes GCheck_c_k1 Tryz.prog glT 3000 25 [.agg [.sym 0, .sym 1, .sym 2, .sym 3, .sym 4, .sym 5]] = some (.lit (.int .i64 0)) := by kernel_rfl
@[reducible] noncomputable def GCheck_c_k2 : Know := ⟨[([0, 11, 28], [.agg [.sym 0, .sym 1, .sym 2, .sym 3, .sym 4, .sym 5], .lit (.agg #[.bool false, .string ⟨#[]⟩, .int .i64 0, .bool false, .string ⟨#[]⟩, .int .i64 0])], .lit (.bool false)),
  ([0, 12, 30], [.sym 6, .lit (.int .i64 0)], .lit (.bool false)),
  ([0, 12, 30], [.sym 7, .lit (.int .i64 0)], .lit (.bool false))],
  [(30, [.agg [.sym 0, .sym 1, .sym 2]], .sym 6),
  (30, [.agg [.sym 3, .sym 4, .sym 5]], .sym 7)]⟩
theorem GCheck_c_r2 : @comes GCheck_c_k2 Tryz.prog glT 3000 25 [.agg [.sym 0, .sym 1, .sym 2, .sym 3, .sym 4, .sym 5]] = some (.lit (.int .i64 0)) := by kernel_rfl
@[reducible] noncomputable def GCheck_c_k3 : Know := ⟨[([0, 11, 28], [.agg [.sym 0, .sym 1, .sym 2, .sym 3, .sym 4, .sym 5], .lit (.agg #[.bool false, .string ⟨#[]⟩, .int .i64 0, .bool false, .string ⟨#[]⟩, .int .i64 0])], .lit (.bool false)),
  ([0, 12, 30], [.sym 6, .lit (.int .i64 0)], .lit (.bool false)),
  ([0, 12, 30], [.sym 7, .lit (.int .i64 0)], .lit (.bool true))],
  [(30, [.agg [.sym 0, .sym 1, .sym 2]], .sym 6),
  (30, [.agg [.sym 3, .sym 4, .sym 5]], .sym 7)]⟩
theorem GCheck_c_r3 : @comes GCheck_c_k3 Tryz.prog glT 3000 25 [.agg [.sym 0, .sym 1, .sym 2, .sym 3, .sym 4, .sym 5]] = some (.lit (.int .i64 2)) := by kernel_rfl
@[reducible] noncomputable def GCheck_c_k4 : Know := ⟨[([0, 11, 28], [.agg [.sym 0, .sym 1, .sym 2, .sym 3, .sym 4, .sym 5], .lit (.agg #[.bool false, .string ⟨#[]⟩, .int .i64 0, .bool false, .string ⟨#[]⟩, .int .i64 0])], .lit (.bool false)),
  ([0, 12, 30], [.sym 6, .lit (.int .i64 0)], .lit (.bool true))],
  [(30, [.agg [.sym 0, .sym 1, .sym 2]], .sym 6)]⟩
theorem GCheck_c_r4 : @comes GCheck_c_k4 Tryz.prog glT 3000 25 [.agg [.sym 0, .sym 1, .sym 2, .sym 3, .sym 4, .sym 5]] = some (.lit (.int .i64 2)) := by kernel_rfl

set_option maxRecDepth 100000 in
theorem GCheck_c (a : Gt) (w : World) (hre : a.re.s.size ≤ 9223372036854775807) (him : a.im.s.size ≤ 9223372036854775807) (hG : Globs glT w) : Calls Tryz.prog 25 #[.agg #[.bool a.re.g, .string a.re.s, .int .i64 a.re.x, .bool a.im.g, .string a.im.s, .int .i64 a.im.x]] w fun e w' => e = .returned (.int .i64 (gE a)) ∧ Below w.heap.size w w' := by
  by_cases h1 : a = Gt.zero
  · letI : Env := mkEnv glT [.bool a.re.g, .string a.re.s, .int .i64 a.re.x, .bool a.im.g, .string a.im.s, .int .i64 a.im.x] rfl
    have hops : OpsT Tryz.prog (@Know.ops GCheck_c_k1) := ⟨optU_eql_t (a := a) (b := Gt.zero) rfl Gt.zero_v.symm h1, trivial⟩
    have hcalls : CallsT Tryz.prog (@Know.calls GCheck_c_k1) := trivial
    exact (@sym_ok _ GCheck_c_k1 _ (@KnowOk.of _ GCheck_c_k1 _ hops hcalls) (by kernel_rfl) _ _ _ _ GCheck_c_r1 rfl rfl _ hG).mono fun e w' h => ⟨h.1.trans (show Ending.returned (.int .i64 0) = .returned (.int .i64 (gE a)) from by rw [gE_ok (show a.Ok from h1 ▸ ⟨Dt.zero_Ok, Dt.zero_Ok⟩)]), h.2⟩
  · by_cases h2 : dE [a.re] = 0
    · by_cases h3 : dE [a.im] = 0
      · letI : Env := mkEnv glT [.bool a.re.g, .string a.re.s, .int .i64 a.re.x, .bool a.im.g, .string a.im.s, .int .i64 a.im.x, .int .i64 (dE [a.re]), .int .i64 (dE [a.im])] rfl
        have hops : OpsT Tryz.prog (@Know.ops GCheck_c_k2) := ⟨optU_eql_f (a := a) (b := Gt.zero) rfl Gt.zero_v.symm h1, opt_neq_f rfl rfl h2, opt_neq_f rfl rfl h3, trivial⟩
        have hcalls : CallsT Tryz.prog (@Know.calls GCheck_c_k2) := ⟨callt rfl rfl fun w hG => DCheck_c a.re w hre, callt rfl rfl fun w hG => DCheck_c a.im w him, trivial⟩
        exact (@sym_ok _ GCheck_c_k2 _ (@KnowOk.of _ GCheck_c_k2 _ hops hcalls) (by kernel_rfl) _ _ _ _ GCheck_c_r2 rfl rfl _ hG).mono fun e w' h => ⟨h.1.trans (show Ending.returned (.int .i64 0) = .returned (.int .i64 (gE a)) from by rw [gE_ok ⟨dE1.1 h2, dE1.1 h3⟩]), h.2⟩
      · letI : Env := mkEnv glT [.bool a.re.g, .string a.re.s, .int .i64 a.re.x, .bool a.im.g, .string a.im.s, .int .i64 a.im.x, .int .i64 (dE [a.re]), .int .i64 (dE [a.im])] rfl
        have hops : OpsT Tryz.prog (@Know.ops GCheck_c_k3) := ⟨optU_eql_f (a := a) (b := Gt.zero) rfl Gt.zero_v.symm h1, opt_neq_f rfl rfl h2, opt_neq_t rfl rfl h3, trivial⟩
        have hcalls : CallsT Tryz.prog (@Know.calls GCheck_c_k3) := ⟨callt rfl rfl fun w hG => DCheck_c a.re w hre, callt rfl rfl fun w hG => DCheck_c a.im w him, trivial⟩
        exact (@sym_ok _ GCheck_c_k3 _ (@KnowOk.of _ GCheck_c_k3 _ hops hcalls) (by kernel_rfl) _ _ _ _ GCheck_c_r3 rfl rfl _ hG).mono fun e w' h => ⟨h.1.trans (show Ending.returned (.int .i64 2) = .returned (.int .i64 (gE a)) from by rw [gE_no (fun c => h3 (dE1.2 c.2))]), h.2⟩
    · letI : Env := mkEnv glT [.bool a.re.g, .string a.re.s, .int .i64 a.re.x, .bool a.im.g, .string a.im.s, .int .i64 a.im.x, .int .i64 (dE [a.re])] rfl
      have hops : OpsT Tryz.prog (@Know.ops GCheck_c_k4) := ⟨optU_eql_f (a := a) (b := Gt.zero) rfl Gt.zero_v.symm h1, opt_neq_t rfl rfl h2, trivial⟩
      have hcalls : CallsT Tryz.prog (@Know.calls GCheck_c_k4) := ⟨callt rfl rfl fun w hG => DCheck_c a.re w hre, trivial⟩
      exact (@sym_ok _ GCheck_c_k4 _ (@KnowOk.of _ GCheck_c_k4 _ hops hcalls) (by kernel_rfl) _ _ _ _ GCheck_c_r4 rfl rfl _ hG).mono fun e w' h => ⟨h.1.trans (show Ending.returned (.int .i64 2) = .returned (.int .i64 (gE a)) from by rw [gE_no (fun c => h2 (dE1.2 c.1))]), h.2⟩

theorem GCheck_gs (a : Gs) (ha : a.Ok) (w : World) (hG : Globs glT w) : Calls Tryz.prog 25 #[.agg #[.bool a.re.g, .string (natS a.re.n), .int .i64 a.re.x, .bool a.im.g, .string (natS a.im.n), .int .i64 a.im.x]] w fun e w' => e = .returned (.int .i64 0) ∧ Below w.heap.size w w' := by
  have h := GCheck_c a.t w (by have := Dy.small ha.1; show (natS a.re.n).size ≤ _; omega) (by have := Dy.small ha.2; show (natS a.im.n).size ≤ _; omega) hG
  rwa [gE_ok (Gs.ok_t ha)] at h
theorem GCheck_re (d : Dy) (hd : d.Ok) (w : World) (hG : Globs glT w) : Calls Tryz.prog 25 #[.agg #[.bool d.g, .string (natS d.n), .int .i64 d.x, .bool false, .string ⟨#[]⟩, .int .i64 0]] w fun e w' => e = .returned (.int .i64 0) ∧ Below w.heap.size w w' := by
  have h := GCheck_gs ⟨d, Dy.zero⟩ ⟨hd, Or.inl rfl⟩ w hG
  simp only [natS_dz] at h
  exact h
theorem GCheck_no (a : Gt) (hs : a.Small) (hn : ¬ a.Ok) (w : World) (hG : Globs glT w) : Calls Tryz.prog 25 #[.agg #[.bool a.re.g, .string a.re.s, .int .i64 a.re.x, .bool a.im.g, .string a.im.s, .int .i64 a.im.x]] w fun e w' => e = .returned (.int .i64 2) ∧ Below w.heap.size w w' := by
  have h := GCheck_c a w hs.1 hs.2 hG
  rwa [gE_no hn] at h
theorem GCheck_all (a : Gt) (hs : a.Small) (w : World) (hG : Globs glT w) : Calls Tryz.prog 25 #[.agg #[.bool a.re.g, .string a.re.s, .int .i64 a.re.x, .bool a.im.g, .string a.im.s, .int .i64 a.im.x]] w fun e w' => e = .returned (.int .i64 (gE a)) ∧ Below w.heap.size w w' := GCheck_c a w hs.1 hs.2 hG
theorem gE0 {a : Gt} : gE a = 0 ↔ a.Ok := by
  by_cases h : a.Ok
  · rw [gE_ok h]; simp [h]
  · rw [gE_no h]; simp [h]

end Go.Proofs.YtjalpocjgpgcfaaGreatDoor
set_option linter.unusedVariables false
set_option linter.unusedSimpArgs false
namespace Go.Proofs.YtjalpocjgpgcfaaGreatDoor
open Go Go.RowKit Nt



/-- Two to the power x. -/
@[irreducible] def pw (x : Int) : Dy := mkD false 1 x
theorem pw_Ok (x : Int) : (pw x).Ok := by unfold pw; exact mkD_Ok _ _ _
theorem mkOk_pw {x : Int} (h1 : -100000 ≤ x) (h2 : x ≤ 100000) : mkOk3 1 x := by
  have h3 : odN 1 = 1 := odN_odd (by decide)
  have h4 : lowN 1 = 0 := lowN_odd (by decide)
  refine Or.inr ⟨?_, ?_, ?_⟩
  · rw [h3]; exact Nat.le_trans (nd_le (k := 1) (by omega) (by decide)) (by decide)
  · rw [h4]; omega
  · rw [h4]; omega
theorem pw_two (x : Int) : mkD false 2 (x - 1) = pw x ∧ mkE 2 (x - 1) = mkE 1 x := by
  have h := mkD_shift false 1 1 x
  unfold pw
  exact h
theorem pw_E {x : Int} (h1 : -100000 ≤ x) (h2 : x ≤ 100000) : mkE 1 x = 0 := mkE_ok (mkOk_pw h1 h2)
theorem DOf_pw (e : Int) (he : -100000 ≤ e ∧ e ≤ 100000) (w : World) : Calls Tryz.prog 27 #[.int .i64 1, .int .i64 e] w fun e' w' => e' = .returned (.tuple #[.agg #[.bool (pw e).g, .string (natS (pw e).n), .int .i64 (pw e).x], .int .i64 0]) ∧ Below w.heap.size w w' := by
  have h := DOf_c 1 e w (by omega) (by omega)
  unfold MkPost at h
  rw [show decide ((1 : Int) < 0) = false from rfl, show (1 : Int).natAbs = 1 from rfl, pw_E he.1 he.2] at h
  unfold pw
  exact h
theorem DOf_pw2 (e : Int) (he : -90000 ≤ e ∧ e ≤ 90000) (w : World) : Calls Tryz.prog 27 #[.int .i64 2, .int .i64 (e - 1)] w fun e' w' => e' = .returned (.tuple #[.agg #[.bool (pw e).g, .string (natS (pw e).n), .int .i64 (pw e).x], .int .i64 0]) ∧ Below w.heap.size w w' := by
  have h := DOf_c 2 (e - 1) w (by omega) (by omega)
  unfold MkPost at h
  rw [show decide ((2 : Int) < 0) = false from rfl, show (2 : Int).natAbs = 2 from rfl, (pw_two e).1, (pw_two e).2, pw_E (by omega) (by omega)] at h
  exact h
theorem rOf_pw (e : Int) (he : -100000 ≤ e ∧ e ≤ 100000) (w : World) : Calls Tryz.prog 37 #[.int .i64 1, .int .i64 e] w fun e' w' => e' = .returned (.tuple #[.agg #[.bool (pw e).g, .string (natS (pw e).n), .int .i64 (pw e).x], .int .i64 0]) ∧ Below w.heap.size w w' := by
  have h := rOfD3_c 1 e w (by omega) (by omega)
  unfold MkPost at h
  rw [show decide ((1 : Int) < 0) = false from rfl, show (1 : Int).natAbs = 1 from rfl, pw_E he.1 he.2] at h
  unfold pw
  exact h

section
variable [Env]
theorem vopt_sub {P : Program} {t : TypeId} {a b r : AV} {x y z : Int} (ha : gval a = .int .i64 x) (hb : gval b = .int .i64 y) (hr : ground r = true) (hv : gval r = .int .i64 z) (h : x - y = z) (h1 : -9223372036854775808 ≤ z ∧ z ≤ 9223372036854775807) : OpT P [0, 1, t] [a, b] r :=
  opt_int (op := .sub) ha hb hr hv fun w => by
    have : IntKind.i64.wrap (x - y) = z := by rw [h]; exact IntWalk.i64_in _ h1
    simp [binOp, Op.intArith, this]
theorem vopt_mul {P : Program} {t : TypeId} {a b r : AV} {x y z : Int} (ha : gval a = .int .i64 x) (hb : gval b = .int .i64 y) (hr : ground r = true) (hv : gval r = .int .i64 z) (h : x * y = z) (h1 : -9223372036854775808 ≤ z ∧ z ≤ 9223372036854775807) : OpT P [0, 2, t] [a, b] r :=
  opt_int (op := .mul) ha hb hr hv fun w => by
    have : IntKind.i64.wrap (x * y) = z := by rw [h]; exact IntWalk.i64_in _ h1
    simp [binOp, Op.intArith, this]
theorem opt_self_neq {P : Program} {t : TypeId} {A : AV} (h : ∀ p q w, (do eqGuard .neq t p q (gval A) (gval A); binOp .neq t (gval A) (gval A)).run P w = .ok (.bool false) w) : OpT P [0, 12, t] [A, A] (.lit (.bool false)) :=
  opt_bin (op := .neq) (r := .lit (.bool false)) rfl h
end

set_option maxRecDepth 100000 in
set_option maxHeartbeats 4000000 in
theorem eqs_24 {g0 : Bool} {s1 : ByteArray} {x2 : Int} {g3 : Bool} {s4 : ByteArray} {x5 : Int} {g6 : Bool} {s7 : ByteArray} {x8 : Int} {g9 : Bool} {s10 : ByteArray} {x11 : Int} {g12 : Bool} {s13 : ByteArray} {x14 : Int} {g15 : Bool} {s16 : ByteArray} {x17 : Int} {g18 : Bool} {s19 : ByteArray} {x20 : Int} {g21 : Bool} {s22 : ByteArray} {x23 : Int} (w : World) : (Op.equalIn 10000 29 (.agg #[.bool g0, .string s1, .int .i64 x2, .bool g3, .string s4, .int .i64 x5, .bool g6, .string s7, .int .i64 x8, .bool g9, .string s10, .int .i64 x11, .bool g12, .string s13, .int .i64 x14, .bool g15, .string s16, .int .i64 x17, .bool g18, .string s19, .int .i64 x20, .bool g21, .string s22, .int .i64 x23]) (.agg #[.bool g0, .string s1, .int .i64 x2, .bool g3, .string s4, .int .i64 x5, .bool g6, .string s7, .int .i64 x8, .bool g9, .string s10, .int .i64 x11, .bool g12, .string s13, .int .i64 x14, .bool g15, .string s16, .int .i64 x17, .bool g18, .string s19, .int .i64 x20, .bool g21, .string s22, .int .i64 x23])).run Tryz.prog w = .ok true w := by
  rw [show (10000 : Nat) = 9999 + 1 from rfl, Op.equalIn]
  simp only [Sem.run_bind, run_underlying Tryz.underlying29, Result.andThen_ok]
  simp only [Std.Legacy.Range.forIn_eq_forIn_range', Std.Legacy.Range.size, Nat.sub_zero, Nat.add_sub_cancel, Nat.div_one, List.range'_succ, List.range'_zero, List.forIn_cons, List.forIn_nil]
  go_simp

set_option maxRecDepth 100000 in
set_option maxHeartbeats 4000000 in
theorem self_24 {g0 : Bool} {s1 : ByteArray} {x2 : Int} {g3 : Bool} {s4 : ByteArray} {x5 : Int} {g6 : Bool} {s7 : ByteArray} {x8 : Int} {g9 : Bool} {s10 : ByteArray} {x11 : Int} {g12 : Bool} {s13 : ByteArray} {x14 : Int} {g15 : Bool} {s16 : ByteArray} {x17 : Int} {g18 : Bool} {s19 : ByteArray} {x20 : Int} {g21 : Bool} {s22 : ByteArray} {x23 : Int} (p q : Operand) (w : World) : (do eqGuard .neq 29 p q (.agg #[.bool g0, .string s1, .int .i64 x2, .bool g3, .string s4, .int .i64 x5, .bool g6, .string s7, .int .i64 x8, .bool g9, .string s10, .int .i64 x11, .bool g12, .string s13, .int .i64 x14, .bool g15, .string s16, .int .i64 x17, .bool g18, .string s19, .int .i64 x20, .bool g21, .string s22, .int .i64 x23]) (.agg #[.bool g0, .string s1, .int .i64 x2, .bool g3, .string s4, .int .i64 x5, .bool g6, .string s7, .int .i64 x8, .bool g9, .string s10, .int .i64 x11, .bool g12, .string s13, .int .i64 x14, .bool g15, .string s16, .int .i64 x17, .bool g18, .string s19, .int .i64 x20, .bool g21, .string s22, .int .i64 x23]); binOp .neq 29 (.agg #[.bool g0, .string s1, .int .i64 x2, .bool g3, .string s4, .int .i64 x5, .bool g6, .string s7, .int .i64 x8, .bool g9, .string s10, .int .i64 x11, .bool g12, .string s13, .int .i64 x14, .bool g15, .string s16, .int .i64 x17, .bool g18, .string s19, .int .i64 x20, .bool g21, .string s22, .int .i64 x23]) (.agg #[.bool g0, .string s1, .int .i64 x2, .bool g3, .string s4, .int .i64 x5, .bool g6, .string s7, .int .i64 x8, .bool g9, .string s10, .int .i64 x11, .bool g12, .string s13, .int .i64 x14, .bool g15, .string s16, .int .i64 x17, .bool g18, .string s19, .int .i64 x20, .bool g21, .string s22, .int .i64 x23])).run Tryz.prog w = .ok (.bool false) w := by
  go_simp
  rw [eqs_24]; rfl

set_option maxRecDepth 100000 in
set_option maxHeartbeats 4000000 in
theorem eqs_28 {g0 : Bool} {s1 : ByteArray} {x2 : Int} {g3 : Bool} {s4 : ByteArray} {x5 : Int} {x6 : Int} {g7 : Bool} {s8 : ByteArray} {x9 : Int} {g10 : Bool} {s11 : ByteArray} {x12 : Int} {x13 : Int} {g14 : Bool} {s15 : ByteArray} {x16 : Int} {g17 : Bool} {s18 : ByteArray} {x19 : Int} {x20 : Int} {g21 : Bool} {s22 : ByteArray} {x23 : Int} {g24 : Bool} {s25 : ByteArray} {x26 : Int} {x27 : Int} (w : World) : (Op.equalIn 10000 37 (.agg #[.bool g0, .string s1, .int .i64 x2, .bool g3, .string s4, .int .i64 x5, .int .i64 x6, .bool g7, .string s8, .int .i64 x9, .bool g10, .string s11, .int .i64 x12, .int .i64 x13, .bool g14, .string s15, .int .i64 x16, .bool g17, .string s18, .int .i64 x19, .int .i64 x20, .bool g21, .string s22, .int .i64 x23, .bool g24, .string s25, .int .i64 x26, .int .i64 x27]) (.agg #[.bool g0, .string s1, .int .i64 x2, .bool g3, .string s4, .int .i64 x5, .int .i64 x6, .bool g7, .string s8, .int .i64 x9, .bool g10, .string s11, .int .i64 x12, .int .i64 x13, .bool g14, .string s15, .int .i64 x16, .bool g17, .string s18, .int .i64 x19, .int .i64 x20, .bool g21, .string s22, .int .i64 x23, .bool g24, .string s25, .int .i64 x26, .int .i64 x27])).run Tryz.prog w = .ok true w := by
  rw [show (10000 : Nat) = 9999 + 1 from rfl, Op.equalIn]
  simp only [Sem.run_bind, run_underlying Tryz.underlying37, Result.andThen_ok]
  simp only [Std.Legacy.Range.forIn_eq_forIn_range', Std.Legacy.Range.size, Nat.sub_zero, Nat.add_sub_cancel, Nat.div_one, List.range'_succ, List.range'_zero, List.forIn_cons, List.forIn_nil]
  go_simp

set_option maxRecDepth 100000 in
set_option maxHeartbeats 4000000 in
theorem self_28 {g0 : Bool} {s1 : ByteArray} {x2 : Int} {g3 : Bool} {s4 : ByteArray} {x5 : Int} {x6 : Int} {g7 : Bool} {s8 : ByteArray} {x9 : Int} {g10 : Bool} {s11 : ByteArray} {x12 : Int} {x13 : Int} {g14 : Bool} {s15 : ByteArray} {x16 : Int} {g17 : Bool} {s18 : ByteArray} {x19 : Int} {x20 : Int} {g21 : Bool} {s22 : ByteArray} {x23 : Int} {g24 : Bool} {s25 : ByteArray} {x26 : Int} {x27 : Int} (p q : Operand) (w : World) : (do eqGuard .neq 37 p q (.agg #[.bool g0, .string s1, .int .i64 x2, .bool g3, .string s4, .int .i64 x5, .int .i64 x6, .bool g7, .string s8, .int .i64 x9, .bool g10, .string s11, .int .i64 x12, .int .i64 x13, .bool g14, .string s15, .int .i64 x16, .bool g17, .string s18, .int .i64 x19, .int .i64 x20, .bool g21, .string s22, .int .i64 x23, .bool g24, .string s25, .int .i64 x26, .int .i64 x27]) (.agg #[.bool g0, .string s1, .int .i64 x2, .bool g3, .string s4, .int .i64 x5, .int .i64 x6, .bool g7, .string s8, .int .i64 x9, .bool g10, .string s11, .int .i64 x12, .int .i64 x13, .bool g14, .string s15, .int .i64 x16, .bool g17, .string s18, .int .i64 x19, .int .i64 x20, .bool g21, .string s22, .int .i64 x23, .bool g24, .string s25, .int .i64 x26, .int .i64 x27]); binOp .neq 37 (.agg #[.bool g0, .string s1, .int .i64 x2, .bool g3, .string s4, .int .i64 x5, .int .i64 x6, .bool g7, .string s8, .int .i64 x9, .bool g10, .string s11, .int .i64 x12, .int .i64 x13, .bool g14, .string s15, .int .i64 x16, .bool g17, .string s18, .int .i64 x19, .int .i64 x20, .bool g21, .string s22, .int .i64 x23, .bool g24, .string s25, .int .i64 x26, .int .i64 x27]) (.agg #[.bool g0, .string s1, .int .i64 x2, .bool g3, .string s4, .int .i64 x5, .int .i64 x6, .bool g7, .string s8, .int .i64 x9, .bool g10, .string s11, .int .i64 x12, .int .i64 x13, .bool g14, .string s15, .int .i64 x16, .bool g17, .string s18, .int .i64 x19, .int .i64 x20, .bool g21, .string s22, .int .i64 x23, .bool g24, .string s25, .int .i64 x26, .int .i64 x27])).run Tryz.prog w = .ok (.bool false) w := by
  go_simp
  rw [eqs_28]; rfl

@[reducible] def halves_2_f : FuncId := 50
@[reducible] def halves_2_a : List AV := [.lit (.int .i64 2), .sym 0]
@[reducible] noncomputable def halves_2_k : Know := ⟨[([0, 1, 3], [.sym 0, .lit (.int .i64 1)], .sym 1)],
  [(27, [.lit (.int .i64 2), .sym 1], .tup [.agg [.sym 2, .sym 3, .sym 4], .lit (.int .i64 0)])]⟩
theorem halves_2_r1 : @comes halves_2_k Tryz.prog glT 3000 halves_2_f halves_2_a = some (.agg [.sym 2, .sym 3, .sym 4]) := by kernel_rfl

set_option maxRecDepth 100000 in
set_option maxHeartbeats 4000000 in
theorem halves_2 (y : Int) (w : World) (he : -9000 ≤ y ∧ y ≤ 9000) (hG : Globs glT w) : Calls Tryz.prog 50 #[.int .i64 2, .int .i64 y] w fun e w' => e = .returned ((pw y).v) ∧ Below w.heap.size w w' := by
  letI : Env := mkEnv glT [.int .i64 y, .int .i64 (y - 1), .bool (pw y).g, .string (natS (pw y).n), .int .i64 (pw y).x] rfl
  have hops : OpsT Tryz.prog (@Know.ops halves_2_k) := ⟨vopt_sub rfl rfl rfl rfl rfl ⟨by omega, by omega⟩,
    trivial⟩
  have hcalls : CallsT Tryz.prog (@Know.calls halves_2_k) := ⟨callt rfl rfl fun w hG => DOf_pw2 y ⟨by omega, by omega⟩ w,
    trivial⟩
  have fin : ∀ v, @comes halves_2_k Tryz.prog glT 3000 halves_2_f halves_2_a = some v → ground v = true → Ending.returned (gval v) = .returned ((pw y).v) → Calls Tryz.prog 50 #[.int .i64 2, .int .i64 y] w fun e w' => e = .returned ((pw y).v) ∧ Below w.heap.size w w' := fun v h1 h2 h3 => (@sym_ok _ halves_2_k _ (@KnowOk.of _ halves_2_k _ hops hcalls) (by kernel_rfl) _ _ _ _ h1 rfl h2 _ hG).mono fun e w' h => ⟨h.1.trans h3, h.2⟩
  clear hops hcalls
  exact fin _ (halves_2_r1) rfl rfl

@[reducible] def halves_1_f : FuncId := 50
@[reducible] def halves_1_a : List AV := [.lit (.int .i64 1), .sym 0]
@[reducible] noncomputable def halves_1_k : Know := ⟨[([0, 1, 3], [.sym 0, .lit (.int .i64 1)], .sym 1)],
  [(27, [.lit (.int .i64 1), .sym 1], .tup [.agg [.sym 2, .sym 3, .sym 4], .lit (.int .i64 0)])]⟩
theorem halves_1_r1 : @comes halves_1_k Tryz.prog glT 3000 halves_1_f halves_1_a = some (.agg [.sym 2, .sym 3, .sym 4]) := by kernel_rfl

set_option maxRecDepth 100000 in
set_option maxHeartbeats 4000000 in
theorem halves_1 (y : Int) (w : World) (he : -9000 ≤ y ∧ y ≤ 9000) (hG : Globs glT w) : Calls Tryz.prog 50 #[.int .i64 1, .int .i64 y] w fun e w' => e = .returned ((pw (y - 1)).v) ∧ Below w.heap.size w w' := by
  letI : Env := mkEnv glT [.int .i64 y, .int .i64 (y - 1), .bool (pw (y - 1)).g, .string (natS (pw (y - 1)).n), .int .i64 (pw (y - 1)).x] rfl
  have hops : OpsT Tryz.prog (@Know.ops halves_1_k) := ⟨vopt_sub rfl rfl rfl rfl rfl ⟨by omega, by omega⟩,
    trivial⟩
  have hcalls : CallsT Tryz.prog (@Know.calls halves_1_k) := ⟨callt rfl rfl fun w hG => DOf_pw (y - 1) ⟨by omega, by omega⟩ w,
    trivial⟩
  have fin : ∀ v, @comes halves_1_k Tryz.prog glT 3000 halves_1_f halves_1_a = some v → ground v = true → Ending.returned (gval v) = .returned ((pw (y - 1)).v) → Calls Tryz.prog 50 #[.int .i64 1, .int .i64 y] w fun e w' => e = .returned ((pw (y - 1)).v) ∧ Below w.heap.size w w' := fun v h1 h2 h3 => (@sym_ok _ halves_1_k _ (@KnowOk.of _ halves_1_k _ hops hcalls) (by kernel_rfl) _ _ _ _ h1 rfl h2 _ hG).mono fun e w' h => ⟨h.1.trans h3, h.2⟩
  clear hops hcalls
  exact fin _ (halves_1_r1) rfl rfl

@[reducible] def on_c_f : FuncId := 36
@[reducible] def on_c_a : List AV := [.agg [.sym 0, .sym 1, .sym 2], .lit (.int .i64 1), .sym 3]
@[reducible] noncomputable def on_c_k : Know := ⟨[],
  [(37, [.lit (.int .i64 1), .sym 3], .tup [.agg [.sym 4, .sym 5, .sym 6], .lit (.int .i64 0)]),
  (63, [.agg [.sym 0, .sym 1, .sym 2], .agg [.sym 4, .sym 5, .sym 6]], .tup [.agg [.sym 7, .sym 8, .sym 9], .sym 10])]⟩
theorem on_c_r1 : @comes on_c_k Tryz.prog glT 3000 on_c_f on_c_a = some (.tup [.agg [.sym 7, .sym 8, .sym 9], .sym 10]) := by kernel_rfl

set_option maxRecDepth 100000 in
set_option maxHeartbeats 4000000 in
theorem on_c (l : Dy) (y : Int) (w : World) (hl : l.Ok) (he : -9000 ≤ y ∧ y ≤ 9000) (hG : Globs glT w) : Calls Tryz.prog 36 #[.agg #[.bool l.g, .string (natS l.n), .int .i64 l.x], .int .i64 1, .int .i64 y] w fun e w' => e = .returned (.tuple #[(addD l (pw y)).v, .int .i64 (addE l (pw y))]) ∧ Below w.heap.size w w' := by
  letI : Env := mkEnv glT [.bool l.g, .string (natS l.n), .int .i64 l.x, .int .i64 y, .bool (pw y).g, .string (natS (pw y).n), .int .i64 (pw y).x, .bool (addD l (pw y)).g, .string (natS (addD l (pw y)).n), .int .i64 (addD l (pw y)).x, .int .i64 (addE l (pw y))] rfl
  have hops : OpsT Tryz.prog (@Know.ops on_c_k) := trivial
  have hcalls : CallsT Tryz.prog (@Know.calls on_c_k) := ⟨callt rfl rfl fun w hG => rOf_pw y ⟨by omega, by omega⟩ w,
    callt rfl rfl fun w hG => rAdd3_c l (pw y) w hl (pw_Ok _),
    trivial⟩
  have fin : ∀ v, @comes on_c_k Tryz.prog glT 3000 on_c_f on_c_a = some v → ground v = true → Ending.returned (gval v) = .returned (.tuple #[(addD l (pw y)).v, .int .i64 (addE l (pw y))]) → Calls Tryz.prog 36 #[.agg #[.bool l.g, .string (natS l.n), .int .i64 l.x], .int .i64 1, .int .i64 y] w fun e w' => e = .returned (.tuple #[(addD l (pw y)).v, .int .i64 (addE l (pw y))]) ∧ Below w.heap.size w w' := fun v h1 h2 h3 => (@sym_ok _ on_c_k _ (@KnowOk.of _ on_c_k _ hops hcalls) (by kernel_rfl) _ _ _ _ h1 rfl h2 _ hG).mono fun e w' h => ⟨h.1.trans h3, h.2⟩
  clear hops hcalls
  exact fin _ (on_c_r1) rfl rfl

@[reducible] def VRight_ok_f : FuncId := 12
@[reducible] def VRight_ok_a : List AV := [.agg [.sym 0, .sym 1, .sym 2, .sym 3, .sym 4, .sym 5, .sym 6]]
@[reducible] noncomputable def VRight_ok_k (b1 b2 : Bool) : Know := ⟨[([0, 16, 3], [.sym 6, .lit (.int .i64 (-4096))], .lit (.bool b1)),
  ([0, 14, 3], [.sym 6, .lit (.int .i64 4096)], .lit (.bool b2))],
  [(30, [.agg [.sym 0, .sym 1, .sym 2]], .lit (.int .i64 0)),
  (30, [.agg [.sym 3, .sym 4, .sym 5]], .lit (.int .i64 0))]⟩
theorem VRight_ok_r1 : @comes (VRight_ok_k true true) Tryz.prog glT 3000 VRight_ok_f VRight_ok_a = some (.lit (.int .i64 0)) := by kernel_rfl

set_option maxRecDepth 100000 in
set_option maxHeartbeats 4000000 in
theorem VRight_ok (l m : Dy) (y : Int) (w : World) (hl : l.Ok) (hm : m.Ok) (he : -4096 ≤ y ∧ y ≤ 4096) (hG : Globs glT w) : Calls Tryz.prog 12 #[.agg #[.bool l.g, .string (natS l.n), .int .i64 l.x, .bool m.g, .string (natS m.n), .int .i64 m.x, .int .i64 y]] w fun e w' => e = .returned (.int .i64 0) ∧ Below w.heap.size w w' := by
  obtain ⟨b1, i1⟩ := bex (y ≥ -4096)
  obtain ⟨b2, i2⟩ := bex (y ≤ 4096)
  letI : Env := mkEnv glT [.bool l.g, .string (natS l.n), .int .i64 l.x, .bool m.g, .string (natS m.n), .int .i64 m.x, .int .i64 y] rfl
  have hops : OpsT Tryz.prog (@Know.ops (VRight_ok_k b1 b2)) := ⟨opt_geq_i rfl rfl i1,
    opt_leq_i rfl rfl i2,
    trivial⟩
  have hcalls : CallsT Tryz.prog (@Know.calls (VRight_ok_k b1 b2)) := ⟨callt rfl rfl fun w hG => DCheck_dy l hl w,
    callt rfl rfl fun w hG => DCheck_dy m hm w,
    trivial⟩
  have fin : ∀ v, @comes (VRight_ok_k b1 b2) Tryz.prog glT 3000 VRight_ok_f VRight_ok_a = some v → ground v = true → Ending.returned (gval v) = .returned (.int .i64 0) → Calls Tryz.prog 12 #[.agg #[.bool l.g, .string (natS l.n), .int .i64 l.x, .bool m.g, .string (natS m.n), .int .i64 m.x, .int .i64 y]] w fun e w' => e = .returned (.int .i64 0) ∧ Below w.heap.size w w' := fun v h1 h2 h3 => (@sym_ok _ (VRight_ok_k b1 b2) _ (@KnowOk.of _ (VRight_ok_k b1 b2) _ hops hcalls) (by kernel_rfl) _ _ _ _ h1 rfl h2 _ hG).mono fun e w' h => ⟨h.1.trans h3, h.2⟩
  clear hops hcalls
  cases b1 with
  | true =>
    have h1 : y ≥ -4096 := i1.1 rfl
    cases b2 with
    | true =>
      have h2 : y ≤ 4096 := i2.1 rfl
      exact fin _ (VRight_ok_r1) rfl rfl
    | false =>
      exact absurd (i2.2 ((by omega))) Bool.false_ne_true
  | false =>
    exact absurd (i1.2 ((by omega))) Bool.false_ne_true

@[reducible] def rRight_ok_f : FuncId := 11
@[reducible] def rRight_ok_a : List AV := [.agg [.sym 0, .sym 1, .sym 2, .sym 3, .sym 4, .sym 5, .sym 6]]
@[reducible] noncomputable def rRight_ok_k (b1 b2 : Bool) : Know := ⟨[([0, 16, 3], [.sym 6, .lit (.int .i64 (-4096))], .lit (.bool b1)),
  ([0, 14, 3], [.sym 6, .lit (.int .i64 4096)], .lit (.bool b2))],
  [(28, [.agg [.sym 0, .sym 1, .sym 2]], .lit (.bool true)),
  (28, [.agg [.sym 3, .sym 4, .sym 5]], .lit (.bool true))]⟩
theorem rRight_ok_r1 : @comes (rRight_ok_k true true) Tryz.prog glT 3000 rRight_ok_f rRight_ok_a = some (.lit (.bool true)) := by kernel_rfl

set_option maxRecDepth 100000 in
set_option maxHeartbeats 4000000 in
theorem rRight_ok (l m : Dy) (y : Int) (w : World) (hl : l.Ok) (hm : m.Ok) (he : -4096 ≤ y ∧ y ≤ 4096) (hG : Globs glT w) : Calls Tryz.prog 11 #[.agg #[.bool l.g, .string (natS l.n), .int .i64 l.x, .bool m.g, .string (natS m.n), .int .i64 m.x, .int .i64 y]] w fun e w' => e = .returned (.bool true) ∧ Below w.heap.size w w' := by
  obtain ⟨b1, i1⟩ := bex (y ≥ -4096)
  obtain ⟨b2, i2⟩ := bex (y ≤ 4096)
  letI : Env := mkEnv glT [.bool l.g, .string (natS l.n), .int .i64 l.x, .bool m.g, .string (natS m.n), .int .i64 m.x, .int .i64 y] rfl
  have hops : OpsT Tryz.prog (@Know.ops (rRight_ok_k b1 b2)) := ⟨opt_geq_i rfl rfl i1,
    opt_leq_i rfl rfl i2,
    trivial⟩
  have hcalls : CallsT Tryz.prog (@Know.calls (rRight_ok_k b1 b2)) := ⟨callt rfl rfl fun w hG => rMayT_ok l w hl,
    callt rfl rfl fun w hG => rMayT_ok m w hm,
    trivial⟩
  have fin : ∀ v, @comes (rRight_ok_k b1 b2) Tryz.prog glT 3000 rRight_ok_f rRight_ok_a = some v → ground v = true → Ending.returned (gval v) = .returned (.bool true) → Calls Tryz.prog 11 #[.agg #[.bool l.g, .string (natS l.n), .int .i64 l.x, .bool m.g, .string (natS m.n), .int .i64 m.x, .int .i64 y]] w fun e w' => e = .returned (.bool true) ∧ Below w.heap.size w w' := fun v h1 h2 h3 => (@sym_ok _ (rRight_ok_k b1 b2) _ (@KnowOk.of _ (rRight_ok_k b1 b2) _ hops hcalls) (by kernel_rfl) _ _ _ _ h1 rfl h2 _ hG).mono fun e w' h => ⟨h.1.trans h3, h.2⟩
  clear hops hcalls
  cases b1 with
  | true =>
    have h1 : y ≥ -4096 := i1.1 rfl
    cases b2 with
    | true =>
      have h2 : y ≤ 4096 := i2.1 rfl
      exact fin _ (rRight_ok_r1) rfl rfl
    | false =>
      exact absurd (i2.2 ((by omega))) Bool.false_ne_true
  | false =>
    exact absurd (i1.2 ((by omega))) Bool.false_ne_true

@[reducible] def VRight_no_f : FuncId := 12
@[reducible] def VRight_no_a : List AV := [.agg [.sym 0, .sym 1, .sym 2, .sym 3, .sym 4, .sym 5, .sym 6]]
@[reducible] noncomputable def VRight_no_k (b1 b2 b3 b4 : Bool) : Know := ⟨[([0, 12, 30], [.sym 7, .lit (.int .i64 0)], .lit (.bool (!b1))),
  ([0, 12, 30], [.sym 8, .lit (.int .i64 0)], .lit (.bool (!b2))),
  ([0, 16, 3], [.sym 6, .lit (.int .i64 (-4096))], .lit (.bool b3)),
  ([0, 14, 3], [.sym 6, .lit (.int .i64 4096)], .lit (.bool b4))],
  [(30, [.agg [.sym 0, .sym 1, .sym 2]], .sym 7),
  (30, [.agg [.sym 3, .sym 4, .sym 5]], .sym 8)]⟩
theorem VRight_no_r1 : @comes (VRight_no_k true true true false) Tryz.prog glT 3000 VRight_no_f VRight_no_a = some (.lit (.int .i64 240)) := by kernel_rfl
theorem VRight_no_r2 (b4 : Bool) : @comes (VRight_no_k true true false b4) Tryz.prog glT 3000 VRight_no_f VRight_no_a = some (.lit (.int .i64 240)) := by kernel_rfl
theorem VRight_no_r3 (b3 b4 : Bool) : @comes (VRight_no_k true false b3 b4) Tryz.prog glT 3000 VRight_no_f VRight_no_a = some (.lit (.int .i64 240)) := by kernel_rfl
theorem VRight_no_r4 (b2 b3 b4 : Bool) : @comes (VRight_no_k false b2 b3 b4) Tryz.prog glT 3000 VRight_no_f VRight_no_a = some (.lit (.int .i64 240)) := by kernel_rfl

set_option maxRecDepth 100000 in
set_option maxHeartbeats 4000000 in
theorem VRight_no (l m : Dt) (y : Int) (w : World) (zl : l.s.size ≤ 9223372036854775807) (zm : m.s.size ≤ 9223372036854775807) (hn : ¬ (l.Ok ∧ m.Ok ∧ -4096 ≤ y ∧ y ≤ 4096)) (hG : Globs glT w) : Calls Tryz.prog 12 #[.agg #[.bool l.g, .string l.s, .int .i64 l.x, .bool m.g, .string m.s, .int .i64 m.x, .int .i64 y]] w fun e w' => e = .returned (.int .i64 240) ∧ Below w.heap.size w w' := by
  obtain ⟨b1, i1⟩ := bex (dE [l] = 0)
  obtain ⟨b2, i2⟩ := bex (dE [m] = 0)
  obtain ⟨b3, i3⟩ := bex (y ≥ -4096)
  obtain ⟨b4, i4⟩ := bex (y ≤ 4096)
  letI : Env := mkEnv glT [.bool l.g, .string l.s, .int .i64 l.x, .bool m.g, .string m.s, .int .i64 m.x, .int .i64 y, .int .i64 (dE [l]), .int .i64 (dE [m])] rfl
  have hops : OpsT Tryz.prog (@Know.ops (VRight_no_k b1 b2 b3 b4)) := ⟨opt_neq_i rfl rfl i1,
    opt_neq_i rfl rfl i2,
    opt_geq_i rfl rfl i3,
    opt_leq_i rfl rfl i4,
    trivial⟩
  have hcalls : CallsT Tryz.prog (@Know.calls (VRight_no_k b1 b2 b3 b4)) := ⟨callt rfl rfl fun w hG => DCheck_c l w zl,
    callt rfl rfl fun w hG => DCheck_c m w zm,
    trivial⟩
  have fin : ∀ v, @comes (VRight_no_k b1 b2 b3 b4) Tryz.prog glT 3000 VRight_no_f VRight_no_a = some v → ground v = true → Ending.returned (gval v) = .returned (.int .i64 240) → Calls Tryz.prog 12 #[.agg #[.bool l.g, .string l.s, .int .i64 l.x, .bool m.g, .string m.s, .int .i64 m.x, .int .i64 y]] w fun e w' => e = .returned (.int .i64 240) ∧ Below w.heap.size w w' := fun v h1 h2 h3 => (@sym_ok _ (VRight_no_k b1 b2 b3 b4) _ (@KnowOk.of _ (VRight_no_k b1 b2 b3 b4) _ hops hcalls) (by kernel_rfl) _ _ _ _ h1 rfl h2 _ hG).mono fun e w' h => ⟨h.1.trans h3, h.2⟩
  clear hops hcalls
  cases b1 with
  | true =>
    have h1 : dE [l] = 0 := i1.1 rfl
    cases b2 with
    | true =>
      have h2 : dE [m] = 0 := i2.1 rfl
      cases b3 with
      | true =>
        have h3 : y ≥ -4096 := i3.1 rfl
        cases b4 with
        | true =>
          exact absurd (i4.1 rfl) (fun c => hn ⟨dE1.1 h1, dE1.1 h2, h3, c⟩)
        | false =>
          have h4 : ¬ (y ≤ 4096) := fun c => Bool.false_ne_true (i4.2 c)
          exact fin _ (VRight_no_r1) rfl rfl
      | false =>
        have h3 : ¬ (y ≥ -4096) := fun c => Bool.false_ne_true (i3.2 c)
        exact fin _ (VRight_no_r2 b4) rfl rfl
    | false =>
      have h2 : ¬ (dE [m] = 0) := fun c => Bool.false_ne_true (i2.2 c)
      exact fin _ (VRight_no_r3 b3 b4) rfl rfl
  | false =>
    have h1 : ¬ (dE [l] = 0) := fun c => Bool.false_ne_true (i1.2 c)
    exact fin _ (VRight_no_r4 b2 b3 b4) rfl rfl

theorem vMay_i (t : Dt) (w : World) (hs : t.s.size ≤ 9223372036854775807) {c : Bool} (h : c = true ↔ t.Ok) : Calls Tryz.prog 28 #[.agg #[.bool t.g, .string t.s, .int .i64 t.x]] w fun e w' => e = .returned (.bool c) ∧ Below w.heap.size w w' := by
  by_cases ho : t.Ok
  · rw [h.2 ho]
    obtain ⟨d, h1, rfl⟩ := Dt.dy ho
    exact rMayT_ok d w h1
  · rw [show c = false by cases c <;> first | rfl | exact absurd (h.1 rfl) ho]
    exact rMayT_no t w hs ho

@[reducible] def rRight_no_f : FuncId := 11
@[reducible] def rRight_no_a : List AV := [.agg [.sym 0, .sym 1, .sym 2, .sym 3, .sym 4, .sym 5, .sym 6]]
@[reducible] noncomputable def rRight_no_k (b1 b2 b3 b4 : Bool) : Know := ⟨[([0, 16, 3], [.sym 6, .lit (.int .i64 (-4096))], .lit (.bool b3)),
  ([0, 14, 3], [.sym 6, .lit (.int .i64 4096)], .lit (.bool b4))],
  [(28, [.agg [.sym 0, .sym 1, .sym 2]], .lit (.bool b1)),
  (28, [.agg [.sym 3, .sym 4, .sym 5]], .lit (.bool b2))]⟩
theorem rRight_no_r1 : @comes (rRight_no_k true true true false) Tryz.prog glT 3000 rRight_no_f rRight_no_a = some (.lit (.bool false)) := by kernel_rfl
theorem rRight_no_r2 (b4 : Bool) : @comes (rRight_no_k true true false b4) Tryz.prog glT 3000 rRight_no_f rRight_no_a = some (.lit (.bool false)) := by kernel_rfl
theorem rRight_no_r3 (b3 b4 : Bool) : @comes (rRight_no_k true false b3 b4) Tryz.prog glT 3000 rRight_no_f rRight_no_a = some (.lit (.bool false)) := by kernel_rfl
theorem rRight_no_r4 (b2 b3 b4 : Bool) : @comes (rRight_no_k false b2 b3 b4) Tryz.prog glT 3000 rRight_no_f rRight_no_a = some (.lit (.bool false)) := by kernel_rfl

set_option maxRecDepth 100000 in
set_option maxHeartbeats 4000000 in
theorem rRight_no (l m : Dt) (y : Int) (w : World) (zl : l.s.size ≤ 9223372036854775807) (zm : m.s.size ≤ 9223372036854775807) (hn : ¬ (l.Ok ∧ m.Ok ∧ -4096 ≤ y ∧ y ≤ 4096)) (hG : Globs glT w) : Calls Tryz.prog 11 #[.agg #[.bool l.g, .string l.s, .int .i64 l.x, .bool m.g, .string m.s, .int .i64 m.x, .int .i64 y]] w fun e w' => e = .returned (.bool false) ∧ Below w.heap.size w w' := by
  obtain ⟨b1, i1⟩ := bex (l.Ok)
  obtain ⟨b2, i2⟩ := bex (m.Ok)
  obtain ⟨b3, i3⟩ := bex (y ≥ -4096)
  obtain ⟨b4, i4⟩ := bex (y ≤ 4096)
  letI : Env := mkEnv glT [.bool l.g, .string l.s, .int .i64 l.x, .bool m.g, .string m.s, .int .i64 m.x, .int .i64 y] rfl
  have hops : OpsT Tryz.prog (@Know.ops (rRight_no_k b1 b2 b3 b4)) := ⟨opt_geq_i rfl rfl i3,
    opt_leq_i rfl rfl i4,
    trivial⟩
  have hcalls : CallsT Tryz.prog (@Know.calls (rRight_no_k b1 b2 b3 b4)) := ⟨callt rfl rfl fun w hG => vMay_i l w zl i1,
    callt rfl rfl fun w hG => vMay_i m w zm i2,
    trivial⟩
  have fin : ∀ v, @comes (rRight_no_k b1 b2 b3 b4) Tryz.prog glT 3000 rRight_no_f rRight_no_a = some v → ground v = true → Ending.returned (gval v) = .returned (.bool false) → Calls Tryz.prog 11 #[.agg #[.bool l.g, .string l.s, .int .i64 l.x, .bool m.g, .string m.s, .int .i64 m.x, .int .i64 y]] w fun e w' => e = .returned (.bool false) ∧ Below w.heap.size w w' := fun v h1 h2 h3 => (@sym_ok _ (rRight_no_k b1 b2 b3 b4) _ (@KnowOk.of _ (rRight_no_k b1 b2 b3 b4) _ hops hcalls) (by kernel_rfl) _ _ _ _ h1 rfl h2 _ hG).mono fun e w' h => ⟨h.1.trans h3, h.2⟩
  clear hops hcalls
  cases b1 with
  | true =>
    have h1 : l.Ok := i1.1 rfl
    cases b2 with
    | true =>
      have h2 : m.Ok := i2.1 rfl
      cases b3 with
      | true =>
        have h3 : y ≥ -4096 := i3.1 rfl
        cases b4 with
        | true =>
          exact absurd (i4.1 rfl) (fun c => hn ⟨h1, h2, h3, c⟩)
        | false =>
          have h4 : ¬ (y ≤ 4096) := fun c => Bool.false_ne_true (i4.2 c)
          exact fin _ (rRight_no_r1) rfl rfl
      | false =>
        have h3 : ¬ (y ≥ -4096) := fun c => Bool.false_ne_true (i3.2 c)
        exact fin _ (rRight_no_r2 b4) rfl rfl
    | false =>
      have h2 : ¬ (m.Ok) := fun c => Bool.false_ne_true (i2.2 c)
      exact fin _ (rRight_no_r3 b3 b4) rfl rfl
  | false =>
    have h1 : ¬ (l.Ok) := fun c => Bool.false_ne_true (i1.2 c)
    exact fin _ (rRight_no_r4 b2 b3 b4) rfl rfl

@[reducible] def rGMay_no_f : FuncId := 18
@[reducible] def rGMay_no_a : List AV := [.agg [.sym 0, .sym 1, .sym 2, .sym 3, .sym 4, .sym 5]]
@[reducible] noncomputable def rGMay_no_k (b1 b2 : Bool) : Know := ⟨[],
  [(28, [.agg [.sym 0, .sym 1, .sym 2]], .lit (.bool b1)),
  (28, [.agg [.sym 3, .sym 4, .sym 5]], .lit (.bool b2))]⟩
theorem rGMay_no_r1 (b2 : Bool) : @comes (rGMay_no_k true b2) Tryz.prog glT 3000 rGMay_no_f rGMay_no_a = some (.lit (.bool b2)) := by kernel_rfl
theorem rGMay_no_r2 (b2 : Bool) : @comes (rGMay_no_k false b2) Tryz.prog glT 3000 rGMay_no_f rGMay_no_a = some (.lit (.bool false)) := by kernel_rfl

set_option maxRecDepth 100000 in
set_option maxHeartbeats 4000000 in
theorem rGMay_no (g : Gt) (w : World) (zgre : g.re.s.size ≤ 9223372036854775807) (zgim : g.im.s.size ≤ 9223372036854775807) (hn : ¬ g.Ok) (hG : Globs glT w) : Calls Tryz.prog 18 #[.agg #[.bool g.re.g, .string g.re.s, .int .i64 g.re.x, .bool g.im.g, .string g.im.s, .int .i64 g.im.x]] w fun e w' => e = .returned (.bool false) ∧ Below w.heap.size w w' := by
  obtain ⟨b1, i1⟩ := bex (g.re.Ok)
  obtain ⟨b2, i2⟩ := bex (g.im.Ok)
  letI : Env := mkEnv glT [.bool g.re.g, .string g.re.s, .int .i64 g.re.x, .bool g.im.g, .string g.im.s, .int .i64 g.im.x] rfl
  have hops : OpsT Tryz.prog (@Know.ops (rGMay_no_k b1 b2)) := trivial
  have hcalls : CallsT Tryz.prog (@Know.calls (rGMay_no_k b1 b2)) := ⟨callt rfl rfl fun w hG => vMay_i g.re w zgre i1,
    callt rfl rfl fun w hG => vMay_i g.im w zgim i2,
    trivial⟩
  have fin : ∀ v, @comes (rGMay_no_k b1 b2) Tryz.prog glT 3000 rGMay_no_f rGMay_no_a = some v → ground v = true → Ending.returned (gval v) = .returned (.bool false) → Calls Tryz.prog 18 #[.agg #[.bool g.re.g, .string g.re.s, .int .i64 g.re.x, .bool g.im.g, .string g.im.s, .int .i64 g.im.x]] w fun e w' => e = .returned (.bool false) ∧ Below w.heap.size w w' := fun v h1 h2 h3 => (@sym_ok _ (rGMay_no_k b1 b2) _ (@KnowOk.of _ (rGMay_no_k b1 b2) _ hops hcalls) (by kernel_rfl) _ _ _ _ h1 rfl h2 _ hG).mono fun e w' h => ⟨h.1.trans h3, h.2⟩
  clear hops hcalls
  cases b1 with
  | true =>
    have h1 : g.re.Ok := i1.1 rfl
    exact fin _ (rGMay_no_r1 b2) rfl (show Ending.returned (.bool b2) = .returned (.bool false) from congrArg (fun c => Ending.returned (Value.bool c)) (Bool.eq_false_iff.2 (fun hb => hn ⟨h1, i2.1 hb⟩)))
  | false =>
    have h1 : ¬ (g.re.Ok) := fun c => Bool.false_ne_true (i1.2 c)
    exact fin _ (rGMay_no_r2 b2) rfl rfl

end Go.Proofs.YtjalpocjgpgcfaaGreatDoor
set_option linter.unusedSimpArgs false
set_option linter.unusedVariables false
namespace Go.Proofs.YtjalpocjgpgcfaaGreatDoor
open Go Go.RowKit

set_option maxRecDepth 100000 in
theorem awake24_says : saysG Tryz.prog glT 5000 13 [] true = true := by kernel_rfl
theorem awake24_c (w : World) (hg : Globs glT w) : Calls Tryz.prog 13 #[] w fun e w' => e = .returned (.bool true) ∧ Below w.heap.size w w' := closed_with (by kernel_rfl) awake24_says hg
end Go.Proofs.YtjalpocjgpgcfaaGreatDoor
set_option linter.unusedVariables false
set_option linter.unusedSimpArgs false
namespace Go.Proofs.YtjalpocjgpgcfaaGreatDoor
open Go Go.RowKit Nt


set_option linter.unusedSectionVars false
theorem iv_addz {a b : Dy} (ha : a.Ok) (hb : b.Ok) (h : addE a b = 0) : iv (addD a b) = iv a + iv b := by
  have e := add_iv ha hb
  rw [e.2] at h
  rw [e.1, mk_iv h]

/-- z times two to the power x. -/
@[irreducible] def hz (z x : Int) : Dy := mkD (decide (z < 0)) z.natAbs x
theorem hz_Ok (z x : Int) : (hz z x).Ok := by unfold hz; exact mkD_Ok _ _ _
theorem mkOk_z {z x : Int} (hz : -10000000 ≤ z ∧ z ≤ 10000000) (h1 : -90000 ≤ x) (h2 : x ≤ 90000) : mkOk3 z.natAbs x := by
  by_cases h0 : z.natAbs = 0
  · rw [h0]; exact Or.inl rfl
  · have h3 := odN_le z.natAbs
    have h6 : lowN z.natAbs ≤ 64 := by
      have h7 := (odN_spec h0).2
      have h8 := odN_pos h0
      rcases Nat.lt_or_ge (lowN z.natAbs) 65 with h | h
      · omega
      · have h9 : 2 ^ 65 ≤ 2 ^ lowN z.natAbs := Nat.pow_le_pow_right (by decide) h
        have h10 : 1 * 2 ^ lowN z.natAbs ≤ odN z.natAbs * 2 ^ lowN z.natAbs := Nat.mul_le_mul_right _ (Nat.pos_of_ne_zero h8)
        omega
    have h5 : nd 256 (odN z.natAbs) ≤ 16384 := Nat.le_trans (nd_le (k := 8) (by omega) (by have : (256 : Nat) ^ 8 = 18446744073709551616 := by decide
                                                                                           omega)) (by decide)
    exact Or.inr ⟨h5, by omega, by omega⟩
theorem iv_hz {z x : Int} (h : -10000000 ≤ z ∧ z ≤ 10000000) (h1 : -90000 ≤ x) (h2 : x ≤ 90000) : iv (hz z x) = z * ((2 ^ (x + (EE : Int)).toNat : Nat) : Int) := by
  have k := mk_toZ (decide (z < 0)) z.natAbs x EE (by have := EE_eq; omega)
  have e : mkZE (sgnd (decide (z < 0)) (z.natAbs * 2 ^ (x + (EE : Int)).toNat)) EE = 0 := k.2.symm.trans (mkE_ok (mkOk_z h h1 h2))
  unfold hz
  rw [k.1, mk_iv e]
  unfold sgnd
  by_cases hn : z < 0
  · rw [decide_eq_true hn, if_pos rfl, Int.natCast_mul, show ((z.natAbs : Nat) : Int) = -z by omega, Int.neg_mul, Int.neg_neg]
  · rw [decide_eq_false hn, if_neg (by simp), Int.natCast_mul, show ((z.natAbs : Nat) : Int) = z by omega]
theorem hz_two {z y x : Int} (h : y = 2 * z) (hb : -1000000 ≤ z ∧ z ≤ 1000000) (hx : -9000 ≤ x ∧ x ≤ 9000) : hz y (x - 1) = hz z x := by
  refine iv_inj (hz_Ok _ _) (hz_Ok _ _) ?_
  rw [iv_hz (by omega) (by omega) (by omega), iv_hz (by omega) (by omega) (by omega), h, show (x + (EE : Int)).toNat = (x - 1 + (EE : Int)).toNat + 1 from by have := EE_eq; omega, Nat.pow_succ, Int.natCast_mul]
  generalize ((2 ^ (x - 1 + (EE : Int)).toNat : Nat) : Int) = t
  show 2 * z * t = z * (t * 2)
  rw [Int.mul_comm 2 z, Int.mul_assoc, Int.mul_comm 2 t]
theorem hz_c (z x : Int) (h : -10000000 ≤ z ∧ z ≤ 10000000) (hx : -9000 ≤ x ∧ x ≤ 9000) (w : World) : Calls Tryz.prog 27 #[.int .i64 z, .int .i64 x] w fun e' w' => e' = .returned (.tuple #[(hz z x).v, .int .i64 0]) ∧ Below w.heap.size w w' := by
  have k := DOf_c z x w (by omega) (by omega)
  unfold MkPost at k
  rw [mkE_ok (mkOk_z h (by omega) (by omega))] at k
  unfold hz
  exact k
theorem add_hz {p : Dy} {z0 z2 z1 x : Int} (hp : p.Ok) (h0 : -1000000 ≤ z0 ∧ z0 ≤ 1000000) (h2 : -1000000 ≤ z2 ∧ z2 ≤ 1000000) (hx : -9000 ≤ x ∧ x ≤ 9000) (hs : z1 = z0 + z2) (h : addE p (hz z0 x) = 0) :
    addD p (hz z1 x) = addD (addD p (hz z0 x)) (hz z2 x) ∧ addE p (hz z1 x) = addE (addD p (hz z0 x)) (hz z2 x) := by
  have e1 := add_iv hp (hz_Ok z1 x)
  have e2 := add_iv (add_Ok hp (hz_Ok z0 x)) (hz_Ok z2 x)
  have e3 := iv_addz hp (hz_Ok z0 x) h
  rw [e1.1, e1.2, e2.1, e2.2, e3, iv_hz (by omega) (by omega) (by omega), iv_hz (by omega) (by omega) (by omega), iv_hz (by omega) (by omega) (by omega), hs, Int.add_mul, Int.add_assoc]
  exact ⟨rfl, rfl⟩
theorem DAdd_canon {a b c : Dy} {k : Int} (ha : a.Ok) (hb : b.Ok) (h : addD a b = c ∧ addE a b = k) (w : World) (hG : Globs glT w) : Calls Tryz.prog 20 #[.agg #[.bool a.g, .string (natS a.n), .int .i64 a.x], .agg #[.bool b.g, .string (natS b.n), .int .i64 b.x]] w fun e' w' => e' = .returned (.tuple #[.agg #[.bool c.g, .string (natS c.n), .int .i64 c.x], .int .i64 k]) ∧ Below w.heap.size w w' := by
  have h2 := DAdd_c a b w ha hb hG
  unfold AddPost at h2
  rw [h.1, h.2] at h2
  exact h2
section
variable [Env]
theorem vopt_add {P : Program} {t : TypeId} {a b r : AV} {x y z : Int} (ha : gval a = .int .i64 x) (hb : gval b = .int .i64 y) (hr : ground r = true) (hv : gval r = .int .i64 z) (h : x + y = z) (h1 : -9223372036854775808 ≤ z ∧ z ≤ 9223372036854775807) : OpT P [0, 0, t] [a, b] r :=
  opt_int (op := .add) ha hb hr hv fun w => by
    have : IntKind.i64.wrap (x + y) = z := by rw [h]; exact IntWalk.i64_in _ h1
    simp [binOp, Op.intArith, this]
theorem vopt_shl {P : Program} {t : TypeId} {a b r : AV} {x z : Int} (ha : gval a = .int .i64 x) (hb : gval b = .int .i64 1) (hr : ground r = true) (hv : gval r = .int .i64 z) (h : 2 * x = z) (h1 : -9223372036854775808 ≤ z ∧ z ≤ 9223372036854775807) : OpT P [0, 8, t] [a, b] r :=
  opt_int (op := .shl) ha hb hr hv fun w => by
    have : IntKind.i64.wrap (x * 2 ^ (1 : Nat)) = z := by rw [Int.pow_succ, Int.pow_zero, Int.one_mul, Int.mul_comm, h]; exact IntWalk.i64_in _ h1
    have h2 := shift_shl_i64 (x := x) (yk := .i64) (y := 1) (by decide) (by decide)
    have h3 : binOp .shl t (.int .i64 x) (.int .i64 1) = pure (.int .i64 z) := by
      rw [binOp_shl]
      refine h2.trans ?_
      rw [show Int.toNat 1 = 1 from rfl, this]
    rw [h3]; rfl
theorem eqI2_run {x y x' y' : Int} {c : Bool} (h : c = true ↔ (x, y) = (x', y')) (p q : Operand) (w : World) : (do eqGuard .eql 100 p q (.agg #[.int .i64 x, .int .i64 y]) (.agg #[.int .i64 x', .int .i64 y']); binOp .eql 100 (.agg #[.int .i64 x, .int .i64 y]) (.agg #[.int .i64 x', .int .i64 y'])).run Tryz.prog w = .ok (.bool c) w := by
  have hh : (x == x' && y == y') = c := by
    rw [Bool.eq_iff_iff, h, Bool.and_eq_true, beq_iff_eq, beq_iff_eq, Prod.mk.injEq]
  have e2 : (Op.equalIn 10000 100 (.agg #[.int .i64 x, .int .i64 y]) (.agg #[.int .i64 x', .int .i64 y'])).run Tryz.prog w = .ok (x == x' && y == y') w := by
    rw [show (10000 : Nat) = 9999 + 1 from rfl, Op.equalIn]
    simp only [Sem.run_bind, run_underlying Tryz.underlying100, Result.andThen_ok]
    simp only [Std.Legacy.Range.forIn_eq_forIn_range', Std.Legacy.Range.size, Nat.sub_zero, Nat.add_sub_cancel, Nat.div_one, List.range'_succ, List.range'_zero, List.forIn_cons, List.forIn_nil]
    clear hh h
    go_simp
    by_cases h1 : x = x' <;> by_cases h2 : y = y' <;> simp [h1, h2]
  clear h
  go_simp
theorem optI2_eql_i {A B : AV} {x y x' y' : Int} {c : Bool} (ha : gval A = .agg #[.int .i64 x, .int .i64 y]) (hb : gval B = .agg #[.int .i64 x', .int .i64 y']) (h : c = true ↔ (x, y) = (x', y')) : OpT Tryz.prog [0, 11, 100] [A, B] (.lit (.bool c)) :=
  opt_bin (op := .eql) rfl fun p q w => by rw [ha, hb]; exact eqI2_run h p q w
end

section
variable [Env]
theorem vopt_conv {P : Program} {src dst : TypeId} {a r : AV} (hr : ground r = true) (h : ∀ w, (convert src dst (gval a)).run P w = .ok (gval r) w) : OpT P [2, src, dst] [a] r := by
  refine ⟨hr, fun o xs hk ρ hρ hx w => ?_⟩
  unfold keyOf at hk
  obtain ⟨dst', o, type, pos, after, guard⟩ := o
  simp only at hk
  split at hk
  · simp only [Option.some.injEq, Prod.mk.injEq, List.cons.injEq] at hk; have := hk.1.1; omega
  · simp only [Option.some.injEq, Prod.mk.injEq, List.cons.injEq] at hk; have := hk.1.1; omega
  · rename_i s' d' x
    simp only [Option.some.injEq, Prod.mk.injEq, List.cons.injEq, and_true, true_and] at hk
    obtain ⟨⟨h1, h2⟩, h3⟩ := hk
    subst h1 h2 h3
    simp only [List.map_cons, List.map_nil, List.cons.injEq, and_true] at hx
    have := h w
    simp only [execOp, hx, Sem.run_bind, Sem.run_pure] at this ⊢
    rw [this]; rfl
  all_goals first
    | (simp only [Option.some.injEq, Prod.mk.injEq, List.cons.injEq] at hk; have := hk.1.1; omega)
    | (split at hk <;> first | cases hk | (simp only [Option.some.injEq, Prod.mk.injEq, List.cons.injEq] at hk; have := hk.1.1; omega))
    | cases hk
end
theorem conv_int (x : Int) (hx : -9223372036854775808 ≤ x ∧ x ≤ 9223372036854775807) (w : World) : (convert 3 2 (.int .i64 x)).run Tryz.prog w = .ok (.int .i64 x) w := by
  have h := IntWalk.i64_in x hx
  go_simp

set_option maxRecDepth 100000 in
theorem self_7 {g0 : Bool} {s1 : ByteArray} {x2 : Int} {g3 : Bool} {s4 : ByteArray} {x5 x6 : Int} (p q : Operand) (w : World) : (do eqGuard .neq 26 p q (.agg #[.bool g0, .string s1, .int .i64 x2, .bool g3, .string s4, .int .i64 x5, .int .i64 x6]) (.agg #[.bool g0, .string s1, .int .i64 x2, .bool g3, .string s4, .int .i64 x5, .int .i64 x6]); binOp .neq 26 (.agg #[.bool g0, .string s1, .int .i64 x2, .bool g3, .string s4, .int .i64 x5, .int .i64 x6]) (.agg #[.bool g0, .string s1, .int .i64 x2, .bool g3, .string s4, .int .i64 x5, .int .i64 x6])).run Tryz.prog w = .ok (.bool false) w := by
  go_simp
theorem selfe_7 {g0 : Bool} {s1 : ByteArray} {x2 : Int} {g3 : Bool} {s4 : ByteArray} {x5 x6 : Int} (p q : Operand) (w : World) : (do eqGuard .eql 26 p q (.agg #[.bool g0, .string s1, .int .i64 x2, .bool g3, .string s4, .int .i64 x5, .int .i64 x6]) (.agg #[.bool g0, .string s1, .int .i64 x2, .bool g3, .string s4, .int .i64 x5, .int .i64 x6]); binOp .eql 26 (.agg #[.bool g0, .string s1, .int .i64 x2, .bool g3, .string s4, .int .i64 x5, .int .i64 x6]) (.agg #[.bool g0, .string s1, .int .i64 x2, .bool g3, .string s4, .int .i64 x5, .int .i64 x6])).run Tryz.prog w = .ok (.bool true) w := by
  go_simp
section
variable [Env]
theorem opt_self_eql {P : Program} {t : TypeId} {A : AV} (h : ∀ p q w, (do eqGuard .eql t p q (gval A) (gval A); binOp .eql t (gval A) (gval A)).run P w = .ok (.bool true) w) : OpT P [0, 11, t] [A, A] (.lit (.bool true)) :=
  opt_bin (op := .eql) (r := .lit (.bool true)) rfl h
end

@[reducible] def halves_z_f : FuncId := 50
@[reducible] def halves_z_a : List AV := [.sym 0, .sym 1]
@[reducible] noncomputable def halves_z_k : Know := ⟨[([0, 1, 3], [.sym 1, .lit (.int .i64 1)], .sym 2)],
  [(27, [.sym 0, .sym 2], .tup [.agg [.sym 3, .sym 4, .sym 5], .lit (.int .i64 0)])]⟩
theorem halves_z_r1 : @comes halves_z_k Tryz.prog glT 3000 halves_z_f halves_z_a = some (.agg [.sym 3, .sym 4, .sym 5]) := by kernel_rfl

set_option maxRecDepth 100000 in
set_option maxHeartbeats 4000000 in
theorem halves_z (z y : Int) (w : World) (hzb : -1000000 ≤ z ∧ z ≤ 1000000) (hy : -8000 ≤ y ∧ y ≤ 8000) (hG : Globs glT w) : Calls Tryz.prog 50 #[.int .i64 z, .int .i64 y] w fun e w' => e = .returned ((hz z (y - 1)).v) ∧ Below w.heap.size w w' := by
  letI : Env := mkEnv glT [.int .i64 z, .int .i64 y, .int .i64 (y - 1), .bool (hz z (y - 1)).g, .string (natS (hz z (y - 1)).n), .int .i64 (hz z (y - 1)).x] rfl
  have hops : OpsT Tryz.prog (@Know.ops halves_z_k) := ⟨vopt_sub rfl rfl rfl rfl (by omega) ⟨by omega, by omega⟩,
    trivial⟩
  have hcalls : CallsT Tryz.prog (@Know.calls halves_z_k) := ⟨callt rfl rfl fun w hG => hz_c z (y - 1) ⟨by omega, by omega⟩ ⟨by omega, by omega⟩ w,
    trivial⟩
  have fin : ∀ v, @comes halves_z_k Tryz.prog glT 3000 halves_z_f halves_z_a = some v → ground v = true → Ending.returned (gval v) = .returned ((hz z (y - 1)).v) → Calls Tryz.prog 50 #[.int .i64 z, .int .i64 y] w fun e w' => e = .returned ((hz z (y - 1)).v) ∧ Below w.heap.size w w' := fun v h1 h2 h3 => (@sym_ok _ halves_z_k _ (@KnowOk.of _ halves_z_k _ hops hcalls) (by kernel_rfl) _ _ _ _ h1 rfl h2 _ hG).mono fun e w' h => ⟨h.1.trans h3, h.2⟩
  clear hops hcalls
  exact fin _ (halves_z_r1) rfl rfl

@[reducible] def VCheck_no_f : FuncId := 47
@[reducible] def VCheck_no_a : List AV := [.agg [.sym 0, .sym 1, .sym 2, .sym 3, .sym 4, .sym 5, .sym 6, .sym 7, .sym 8]]
@[reducible] noncomputable def VCheck_no_k (b1 b2 b3 b4 b5 b6 b7 : Bool) : Know := ⟨[([0, 12, 30], [.sym 9, .lit (.int .i64 0)], .lit (.bool (!b1))),
  ([0, 16, 3], [.sym 6, .lit (.int .i64 (-4096))], .lit (.bool b2)),
  ([0, 14, 3], [.sym 6, .lit (.int .i64 4096)], .lit (.bool b3)),
  ([0, 16, 3], [.sym 7, .lit (.int .i64 1)], .lit (.bool b4)),
  ([0, 14, 3], [.sym 7, .lit (.int .i64 65536)], .lit (.bool b5)),
  ([0, 16, 3], [.sym 8, .lit (.int .i64 1)], .lit (.bool b6)),
  ([0, 14, 3], [.sym 8, .lit (.int .i64 65536)], .lit (.bool b7))],
  [(25, [.agg [.sym 0, .sym 1, .sym 2, .sym 3, .sym 4, .sym 5]], .sym 9)]⟩
theorem VCheck_no_r1 : @comes (VCheck_no_k true true true true true true false) Tryz.prog glT 3000 VCheck_no_f VCheck_no_a = some (.lit (.int .i64 240)) := by kernel_rfl
theorem VCheck_no_r2 (b7 : Bool) : @comes (VCheck_no_k true true true true true false b7) Tryz.prog glT 3000 VCheck_no_f VCheck_no_a = some (.lit (.int .i64 240)) := by kernel_rfl
theorem VCheck_no_r3 (b6 b7 : Bool) : @comes (VCheck_no_k true true true true false b6 b7) Tryz.prog glT 3000 VCheck_no_f VCheck_no_a = some (.lit (.int .i64 240)) := by kernel_rfl
theorem VCheck_no_r4 (b5 b6 b7 : Bool) : @comes (VCheck_no_k true true true false b5 b6 b7) Tryz.prog glT 3000 VCheck_no_f VCheck_no_a = some (.lit (.int .i64 240)) := by kernel_rfl
theorem VCheck_no_r5 (b4 b5 b6 b7 : Bool) : @comes (VCheck_no_k true true false b4 b5 b6 b7) Tryz.prog glT 3000 VCheck_no_f VCheck_no_a = some (.lit (.int .i64 240)) := by kernel_rfl
theorem VCheck_no_r6 (b3 b4 b5 b6 b7 : Bool) : @comes (VCheck_no_k true false b3 b4 b5 b6 b7) Tryz.prog glT 3000 VCheck_no_f VCheck_no_a = some (.lit (.int .i64 240)) := by kernel_rfl
theorem VCheck_no_r7 (b2 b3 b4 b5 b6 b7 : Bool) : @comes (VCheck_no_k false b2 b3 b4 b5 b6 b7) Tryz.prog glT 3000 VCheck_no_f VCheck_no_a = some (.lit (.int .i64 240)) := by kernel_rfl

set_option maxRecDepth 100000 in
set_option maxHeartbeats 4000000 in
theorem VCheck_no (p q : Dt) (y a b : Int) (w : World) (zp : p.s.size ≤ 9223372036854775807) (zq : q.s.size ≤ 9223372036854775807) (hn : ¬ (p.Ok ∧ q.Ok ∧ y ≥ -4096 ∧ y ≤ 4096 ∧ a ≥ 1 ∧ a ≤ 65536 ∧ b ≥ 1 ∧ b ≤ 65536)) (hG : Globs glT w) : Calls Tryz.prog 47 #[.agg #[.bool p.g, .string p.s, .int .i64 p.x, .bool q.g, .string q.s, .int .i64 q.x, .int .i64 y, .int .i64 a, .int .i64 b]] w fun e w' => e = .returned (.int .i64 240) ∧ Below w.heap.size w w' := by
  obtain ⟨b1, i1⟩ := bex (gE ⟨p, q⟩ = 0)
  obtain ⟨b2, i2⟩ := bex (y ≥ -4096)
  obtain ⟨b3, i3⟩ := bex (y ≤ 4096)
  obtain ⟨b4, i4⟩ := bex (a ≥ 1)
  obtain ⟨b5, i5⟩ := bex (a ≤ 65536)
  obtain ⟨b6, i6⟩ := bex (b ≥ 1)
  obtain ⟨b7, i7⟩ := bex (b ≤ 65536)
  letI : Env := mkEnv glT [.bool p.g, .string p.s, .int .i64 p.x, .bool q.g, .string q.s, .int .i64 q.x, .int .i64 y, .int .i64 a, .int .i64 b, .int .i64 (gE ⟨p, q⟩)] rfl
  have hops : OpsT Tryz.prog (@Know.ops (VCheck_no_k b1 b2 b3 b4 b5 b6 b7)) := ⟨opt_neq_i rfl rfl i1,
    opt_geq_i rfl rfl i2,
    opt_leq_i rfl rfl i3,
    opt_geq_i rfl rfl i4,
    opt_leq_i rfl rfl i5,
    opt_geq_i rfl rfl i6,
    opt_leq_i rfl rfl i7,
    trivial⟩
  have hcalls : CallsT Tryz.prog (@Know.calls (VCheck_no_k b1 b2 b3 b4 b5 b6 b7)) := ⟨callt rfl rfl fun w hG => GCheck_all ⟨p, q⟩ ⟨zp, zq⟩ w hG,
    trivial⟩
  have fin : ∀ v, @comes (VCheck_no_k b1 b2 b3 b4 b5 b6 b7) Tryz.prog glT 3000 VCheck_no_f VCheck_no_a = some v → ground v = true → Ending.returned (gval v) = .returned (.int .i64 240) → Calls Tryz.prog 47 #[.agg #[.bool p.g, .string p.s, .int .i64 p.x, .bool q.g, .string q.s, .int .i64 q.x, .int .i64 y, .int .i64 a, .int .i64 b]] w fun e w' => e = .returned (.int .i64 240) ∧ Below w.heap.size w w' := fun v h1 h2 h3 => (@sym_ok _ (VCheck_no_k b1 b2 b3 b4 b5 b6 b7) _ (@KnowOk.of _ (VCheck_no_k b1 b2 b3 b4 b5 b6 b7) _ hops hcalls) (by kernel_rfl) _ _ _ _ h1 rfl h2 _ hG).mono fun e w' h => ⟨h.1.trans h3, h.2⟩
  clear hops hcalls
  cases b1 with
  | true =>
    have h1 : gE ⟨p, q⟩ = 0 := i1.1 rfl
    cases b2 with
    | true =>
      have h2 : y ≥ -4096 := i2.1 rfl
      cases b3 with
      | true =>
        have h3 : y ≤ 4096 := i3.1 rfl
        cases b4 with
        | true =>
          have h4 : a ≥ 1 := i4.1 rfl
          cases b5 with
          | true =>
            have h5 : a ≤ 65536 := i5.1 rfl
            cases b6 with
            | true =>
              have h6 : b ≥ 1 := i6.1 rfl
              cases b7 with
              | true =>
                exact absurd (i7.1 rfl) (fun c => hn ⟨(gE0.1 h1).1, (gE0.1 h1).2, h2, h3, h4, h5, h6, c⟩)
              | false =>
                have h7 : ¬ (b ≤ 65536) := fun c => Bool.false_ne_true (i7.2 c)
                exact fin _ (VCheck_no_r1) rfl rfl
            | false =>
              have h6 : ¬ (b ≥ 1) := fun c => Bool.false_ne_true (i6.2 c)
              exact fin _ (VCheck_no_r2 b7) rfl rfl
          | false =>
            have h5 : ¬ (a ≤ 65536) := fun c => Bool.false_ne_true (i5.2 c)
            exact fin _ (VCheck_no_r3 b6 b7) rfl rfl
        | false =>
          have h4 : ¬ (a ≥ 1) := fun c => Bool.false_ne_true (i4.2 c)
          exact fin _ (VCheck_no_r4 b5 b6 b7) rfl rfl
      | false =>
        have h3 : ¬ (y ≤ 4096) := fun c => Bool.false_ne_true (i3.2 c)
        exact fin _ (VCheck_no_r5 b4 b5 b6 b7) rfl rfl
    | false =>
      have h2 : ¬ (y ≥ -4096) := fun c => Bool.false_ne_true (i2.2 c)
      exact fin _ (VCheck_no_r6 b3 b4 b5 b6 b7) rfl rfl
  | false =>
    have h1 : ¬ (gE ⟨p, q⟩ = 0) := fun c => Bool.false_ne_true (i1.2 c)
    exact fin _ (VCheck_no_r7 b2 b3 b4 b5 b6 b7) rfl rfl

end Go.Proofs.YtjalpocjgpgcfaaGreatDoor
