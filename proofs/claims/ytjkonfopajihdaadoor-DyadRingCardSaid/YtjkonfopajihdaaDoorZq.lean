/- Texts put together: D30 D31 D32 D33 D34. -/
import Derived.Test.YtjkonfopajihdaaDoorZp
set_option linter.unusedSimpArgs false
set_option linter.unusedVariables false
namespace Go.Proofs.YtjkonfopajihdaaDoor
open Go Go.RowKit Nt

theorem low_word {n i : Nat} (hz : ∀ j, j < i → dgt W n j = 0) (hd : dgt W n i ≠ 0) : lowN n = 64 * i + Lib.ctz 64 (dgt W n i) := by
  have h0 : n % W ^ i = 0 := by
    have := mod_eq_of_digits (b := W) n 0 i (fun j hj => by rw [hz j hj, dgt_def, Nat.zero_div, Nat.zero_mod])
    rwa [Nat.zero_mod] at this
  have hdl : dgt W n i < 18446744073709551616 := wd_lt n i
  obtain ⟨t1, t2, t3⟩ := Bt.tz_spec (Nat.pos_of_ne_zero hd) hdl
  have e : Lib.ctz 64 (dgt W n i) = Bt.tz (dgt W n i) := rfl
  rw [e]
  have hm : n = W ^ i * (n / W ^ i) := by have := Nat.div_add_mod n (W ^ i); rw [h0] at this; omega
  have hd2 : n / W ^ i = dgt W n i + W * (n / W ^ i / W) := by
    rw [dgt_def]; have := Nat.mod_add_div (n / W ^ i) W; omega
  generalize dgt W n i = d at *
  generalize n / W ^ i / W = q at *
  generalize hmm : n / W ^ i = m at *
  clear hz h0 e hd hdl hmm
  have hp : W = 2 ^ Bt.tz d * 2 ^ (64 - Bt.tz d) := by rw [← Nat.pow_add, show Bt.tz d + (64 - Bt.tz d) = 64 by omega]; exact W_two
  refine (od_unique (o := Bt.od d + 2 ^ (64 - Bt.tz d) * q) ?_ ?_).1
  · rw [show 64 - Bt.tz d = (64 - Bt.tz d - 1) + 1 by omega, Nat.pow_succ]
    have : 2 ^ (64 - Bt.tz d - 1) * 2 * q = 2 * (2 ^ (64 - Bt.tz d - 1) * q) := by rw [Nat.mul_comm (2 ^ (64 - Bt.tz d - 1)) 2, Nat.mul_assoc]
    omega
  · rw [hm, hd2, Nat.pow_add, Nat.pow_mul, ← W_two, Nat.add_mul, ← Nat.mul_assoc, Nat.mul_comm (Bt.od d), Nat.mul_assoc (W ^ i), t1]
    rw [Nat.mul_add]
    congr 1
    rw [hp]
    simp only [Nat.mul_assoc, Nat.mul_comm, Nat.mul_left_comm]
set_option maxRecDepth 100000 in
set_option maxHeartbeats 1000000 in
theorem LLow_c (A : Option Addr) (c n B : Nat) (w : World) (hL : nd W n ≤ 1000000000) (hr : Row w B A n (nd W n)) (hT : Bt.Tabs w) :
    Calls Tryd.prog 117 #[.slice A (nd W n) c] w fun e w' => e = .returned (.int .i64 (lowN n : Nat)) ∧ w = w' := by
  obtain ⟨L, hLe⟩ : ∃ L, L = nd W n := ⟨_, rfl⟩
  have HT := Lib.hid hT.1
  have hn : n < W ^ nd W n := lt_nd W2
  rw [← hLe] at hL hr hn ⊢
  have HR := Lib.hid hr
  have HN := Lib.hid hn
  clear hr hLe hT hn
  go_enter Tryd.func117, Tryd.ntmps117
  go_wp2_with fail
  go_loop [7] (fun i => ∃ k : Nat, k ≤ L ∧ i = .int .i64 k ∧ Hid (∀ j, j < k → dgt W n j = 0)) (fun i => L - (intOf i).toNat)
  case atStart => exact ⟨0, Nat.zero_le _, rfl, Lib.hid (fun j h => by omega)⟩
  case round =>
    obtain ⟨k, hk, rfl, hz⟩ := hrel
    by_cases hlt : k < L
    · obtain ⟨g, rfl, hg, hc⟩ := HR.out.at_ hlt
      have hdl := wd_lt n k
      by_cases hd : dgt W n k = 0
      · rw [hd] at hc
        have HZ := Lib.hid (show ∀ j, j < k + 1 → dgt W n j = 0 from fun j hj => by
          rcases Nat.lt_or_ge j k with h | h
          · exact hz.out j h
          · obtain rfl : j = k := by omega
            exact hd)
        clear hd hdl
        go_wp2_with fail
        go_round
        case rel => exact ⟨k + 1, by omega, by go_num, HZ⟩
        case measure => simp [intOf]; omega
      · have hne : (((dgt W n k : Nat) : Int) != 0) = true := by rw [bne_iff_ne]; omega
        have HE := Lib.hid (low_word hz.out hd)
        have KT := Lib.hid (fun w hT => Tryd.bits_TrailingZeros64 (dgt W n k) hdl w hT)
        have hct : Lib.ctz 64 (dgt W n k) < 64 := (Bt.tz_spec (Nat.pos_of_ne_zero hd) hdl).2.2
        generalize dgt W n k = d at *
        generalize Lib.ctz 64 d = t at *
        clear hd hdl
        go_wp2_with fail
        refine (KT.out _ (fun _ => HT.out)).mono ?_
        rintro e w' ⟨rfl, rfl⟩
        go_wp2_with fail
        go_ret
        exact ⟨by rw [HE.out, Int.natCast_add, Int.natCast_mul]; rfl, rfl⟩
    · obtain rfl : k = L := by omega
      have h0 : lowN n = 0 := by
        have : n = 0 := eq_of_digits (b := W) (L := k) HN.out (Nat.pow_pos W0) (fun i hi => by rw [hz.out i hi, dgt_def, Nat.zero_div, Nat.zero_mod])
        rw [this, lowN_zero]
      have HZ := Lib.hid h0
      clear h0
      go_wp2_with fail
      go_ret
      exact ⟨by rw [HZ.out]; rfl, rfl⟩
end Go.Proofs.YtjkonfopajihdaaDoor
set_option linter.unusedSimpArgs false
set_option linter.unusedVariables false
namespace Go.Proofs.YtjkonfopajihdaaDoor
open Go Go.RowKit Nt

theorem fit_shift (g : Bool) (n : Nat) (x : Int) : mkD g (odN n) (x + (lowN n : Int)) = mkD g n x ∧ mkE (odN n) (x + (lowN n : Int)) = mkE n x := by
  by_cases h0 : n = 0
  · subst h0; rw [odN_zero, mkD_zero, mkD_zero, mkE_zero, mkE_zero]; exact ⟨rfl, rfl⟩
  · have h := mkD_shift g (odN n) (lowN n) (x + (lowN n : Int))
    rw [← (odN_spec h0).2, show x + (lowN n : Int) - (lowN n : Int) = x by omega] at h
    exact ⟨h.1.symm, h.2.symm⟩
theorem nd2_W {n m : Nat} (h : nd W n ≤ m) : nd 2 n ≤ 64 * m := (nd_pow (b := 2) (c := W) (e := 64) (by omega) (by omega) W_two n m).2 h
theorem fit_bits {n : Nat} : (131072 < nd 2 n - lowN n) ↔ ¬ fits (odN n) := by
  by_cases h0 : n = 0
  · subst h0; rw [odN_zero, nd_zero]; exact ⟨fun c => by omega, fun c => absurd fits_zero c⟩
  · have h1 := nd_odN h0
    have h2 := bits_le (odN n) 16384
    unfold fits
    omega
theorem Row.allocd {w : World} {B : Nat} {A : Option Addr} {n L : Nat} (h : Row w B A n L) (hB : B ≤ w.heap.size) (b : Obj) : Row (w.alloc b) B A n L := h.below ((Below.refl _ _).alloc hB _)
set_option maxRecDepth 100000 in
set_option maxHeartbeats 1000000 in
theorem DFit_c (g : Bool) (n : Nat) (x : Int) (A : Option Addr) (c B : Nat) (w : World) (hn : nd W n ≤ 10000) (hx : -2000000 ≤ x ∧ x ≤ 2000000) (hr : Row w B A n (nd W n)) (hB : B ≤ w.heap.size) (hT : Bt.Tabs w) :
    Calls Tryd.prog 82 #[.bool g, .slice A (nd W n) c, .int .i64 x] w (MkPost g n x w) := by
  have hbits := nd2_W hn
  have hll : lowN n ≤ nd 2 n := by
    by_cases h0 : n = 0
    · rw [h0, lowN_zero]; omega
    · exact Nat.le_of_lt (low_lt h0 (lowN_is n))
  have hfb := @fit_bits n
  have K1 : Hid (∀ b, Calls Tryd.prog 117 #[.slice A (nd W n) c] (w.alloc b) fun e w' => e = .returned (.int .i64 (lowN n : Nat)) ∧ w.alloc b = w') := Lib.hid fun b => LLow_c A c n B _ (by omega) (hr.allocd hB b) (box_tabs hT)
  have K2 : Hid (∀ b, Calls Tryd.prog 118 #[.slice A (nd W n) c] (w.alloc b) fun e w' => e = .returned (.int .i64 (nd 2 n : Nat)) ∧ w.alloc b = w') := Lib.hid fun b => Len_c A c n B _ (by omega) (hr.allocd hB b)
  have K3 : Hid (∀ b, Calls Tryd.prog 101 #[.slice A (nd W n) c, .int .i64 (lowN n : Nat)] (w.alloc b) (NumPost (odN n) (w.alloc b))) := Lib.hid fun b => by
    have := Shr_c A c n (lowN n) B (w.alloc b) (by omega) (by omega) (hr.allocd hB b) (Nat.le_trans hB (by simp))
    unfold odN; exact this
  have hno : nd W (odN n) ≤ 10000 := Nat.le_trans (nd_mono W2 (odN_le n)) hn
  have K4 := Lib.hid (fun A' c' w' (hr' : Row w' w'.heap.size A' (odN n) (nd W (odN n))) => Bytes_c A' c' (odN n) w'.heap.size w' (by omega) hr' (Nat.le_refl _))
  have hfs := fit_shift g n x
  by_cases hfit : fits (odN n)
  · have KM : Hid (∀ w, Calls Tryd.prog 25 #[.bool g, .string (natS (odN n)), .int .i64 (x + (lowN n : Int))] w fun e w' => e = .returned (.tuple #[(mkD g n x).v, .int .i64 (mkE n x)]) ∧ Below w.heap.size w w') := Lib.hid fun w => by
      have := DMake_c g (odN n) (x + (lowN n : Int)) w hfit (by omega)
      unfold MkPost at this
      rw [hfs.1, hfs.2] at this
      exact this
    have h1 : ¬ (131072 : Int) < ((nd 2 n : Nat) : Int) - ((lowN n : Nat) : Int) := by
      have : ¬ 131072 < nd 2 n - lowN n := fun c => hfb.1 c hfit
      omega
    clear hfb hr hB hT hfit hfs
    clear hno hn
    unfold MkPost
    generalize mkD g n x = D at *
    generalize mkE n x = E at *
    go_enter Tryd.func82, Tryd.ntmps82
    go_wp2_with fail
    refine (K1.out _).mono ?_
    rintro e w' ⟨rfl, rfl⟩
    go_wp2_with fail
    refine (K2.out _).mono ?_
    rintro e w' ⟨rfl, rfl⟩
    go_wp2_with fail
    refine (K3.out _).mono ?_
    rintro e w1 hnp
    obtain ⟨A3, c3, rfl, hc3, hr3, hb3⟩ := hnp.get
    have HR3 := Lib.hid hr3
    clear hr3 hc3 hnp
    go_wp2_with fail
    refine (K4.out _ _ _ HR3.out).mono ?_
    rintro e w2 ⟨rfl, hb4⟩
    have hb := below_then hb3 hb4
    clear hb3 hb4
    go_wp2_with fail
    refine (KM.out _).mono ?_
    rintro e w3 ⟨rfl, hb5⟩
    have hb := below_then hb hb5
    obtain ⟨hcl, hfz⟩ := bcell hb
    have hsz := box1 hb
    clear hb5
    unfold Dy.v
    go_wp2_with fail
    refine bodyPost_ret (v := .tuple #[D.v, .int .i64 E]) (by simp [results, Tryd.results82, go_sem, hcl, hsz, Dy.v]) rfl ⟨rfl, ?_⟩
    repeat (refine Below.setCell ?_ (by simp) _)
    exact box_below hb
  · have hno2 : ¬ mkOk3 n x := by
      rintro (h | ⟨h, _⟩)
      · subst h; rw [odN_zero] at hfit; exact hfit fits_zero
      · exact hfit h
    have HNO := Lib.hid hno2
    have h1 : (131072 : Int) < ((nd 2 n : Nat) : Int) - ((lowN n : Nat) : Int) := by
      have := hfb.2 hfit
      omega
    clear hfb hr hB hT hfit hfs hno2
    clear hno hn
    go_enter Tryd.func82, Tryd.ntmps82
    go_wp2_with fail
    refine (K1.out _).mono ?_
    rintro e w' ⟨rfl, rfl⟩
    go_wp2_with fail
    refine (K2.out _).mono ?_
    rintro e w' ⟨rfl, rfl⟩
    go_wp2_with fail
    refine bodyPost_ret (v := .tuple #[.agg #[.bool false, .string ⟨#[]⟩, .int .i64 0], .int .i64 4]) (by simp [results, Tryd.results82, go_sem]) rfl (MkPost.no HNO.out rfl ?_)
    repeat (refine Below.setCell ?_ (by simp) _)
    exact (Below.refl _ _).alloc (Nat.le_refl _) _
end Go.Proofs.YtjkonfopajihdaaDoor
set_option linter.unusedSimpArgs false
set_option linter.unusedVariables false
namespace Go.Proofs.YtjkonfopajihdaaDoor
open Go Go.RowKit Nt

def sgnd (g : Bool) (m : Nat) : Int := if g then -(m : Int) else (m : Int)
def sumG (g h : Bool) (X Y : Nat) : Bool := if g = h then g else if X < Y then h else g
def sumN (g h : Bool) (X Y : Nat) : Nat := if g = h then X + Y else if X < Y then Y - X else X - Y
theorem sum_abs (g h : Bool) (X Y : Nat) : (sgnd g X + sgnd h Y).natAbs = sumN g h X Y := by
  unfold sgnd sumN
  cases g <;> cases h <;> simp <;> (try split) <;> omega
theorem sum_sgn (g h : Bool) (X Y : Nat) (h0 : sumN g h X Y ≠ 0) : decide (sgnd g X + sgnd h Y < 0) = sumG g h X Y := by
  by_cases hl : X < Y <;> cases g <;> cases h <;> simp [sgnd, sumN, sumG, hl] at h0 ⊢ <;> omega
theorem sum_mk (g h : Bool) (X Y : Nat) (x : Int) : mkD (decide (sgnd g X + sgnd h Y < 0)) (sgnd g X + sgnd h Y).natAbs x = mkD (sumG g h X Y) (sumN g h X Y) x := by
  rw [sum_abs]
  by_cases h0 : sumN g h X Y = 0
  · rw [h0, mkD_zero, mkD_zero]
  · rw [sum_sgn g h X Y h0]
/-- a and b, a's exponent not below b's. -/
@[irreducible] def hiD (a b : Dy) : Dy := mkD (sumG a.g b.g (upN a b) b.n) (sumN a.g b.g (upN a b) b.n) b.x
@[irreducible] def hiE (a b : Dy) : Int := mkE (sumN a.g b.g (upN a b) b.n) b.x
theorem hiD_eq (a b : Dy) : hiD a b = mkD (sumG a.g b.g (upN a b) b.n) (sumN a.g b.g (upN a b) b.n) b.x := by unfold hiD; rfl
theorem hiE_eq (a b : Dy) : hiE a b = mkE (sumN a.g b.g (upN a b) b.n) b.x := by unfold hiE; rfl
@[irreducible] def addD (a b : Dy) : Dy := if a.n = 0 then b else if b.n = 0 then a else if a.x < b.x then hiD b a else hiD a b
@[irreducible] def addE (a b : Dy) : Int := if a.n = 0 then 0 else if b.n = 0 then 0 else if a.x < b.x then hiE b a else hiE a b
theorem add_zl {a b : Dy} (h : a.n = 0) : addD a b = b ∧ addE a b = 0 := by unfold addD addE; rw [if_pos h, if_pos h]; exact ⟨rfl, rfl⟩
theorem add_zr {a b : Dy} (h0 : a.n ≠ 0) (h : b.n = 0) : addD a b = a ∧ addE a b = 0 := by unfold addD addE; rw [if_neg h0, if_neg h0, if_pos h, if_pos h]; exact ⟨rfl, rfl⟩
theorem add_lt {a b : Dy} (h0 : a.n ≠ 0) (h1 : b.n ≠ 0) (h : a.x < b.x) : addD a b = hiD b a ∧ addE a b = hiE b a := by unfold addD addE; rw [if_neg h0, if_neg h0, if_neg h1, if_neg h1, if_pos h, if_pos h]; exact ⟨rfl, rfl⟩
theorem add_ge {a b : Dy} (h0 : a.n ≠ 0) (h1 : b.n ≠ 0) (h : ¬ a.x < b.x) : addD a b = hiD a b ∧ addE a b = hiE a b := by unfold addD addE; rw [if_neg h0, if_neg h0, if_neg h1, if_neg h1, if_neg h, if_neg h]; exact ⟨rfl, rfl⟩
theorem add_Ok {a b : Dy} (ha : a.Ok) (hb : b.Ok) : (addD a b).Ok := by
  unfold addD
  split
  · exact hb
  · split
    · exact ha
    · split
      · rw [hiD_eq]; exact mkD_Ok _ _ _
      · rw [hiD_eq]; exact mkD_Ok _ _ _
theorem sgnd_i64 {m : Nat} (h : m ≤ 9223372036854775807) : IntKind.i64.wrap (m : Int) = (m : Int) ∧ IntKind.i64.wrap (-(m : Int)) = -(m : Int) := ⟨IntWalk.i64_in _ (by omega), IntWalk.i64_in _ (by omega)⟩
set_option maxRecDepth 100000 in
theorem Dsigned_c (g : Bool) (m : Nat) (w : World) (hm : m ≤ 9223372036854775807) :
    Calls Tryd.prog 115 #[.bool g, .int .u64 (m : Nat)] w fun e w' => e = .returned (.int .i64 (sgnd g m)) ∧ w = w' := by
  obtain ⟨h1, h2⟩ := sgnd_i64 hm
  have h3 : wrap64 (m : Int) = (m : Int) := IntWalk.wrap64_in _ (by omega)
  have h4 : wrap64 (-(m : Int)) = -(m : Int) := IntWalk.wrap64_in _ (by omega)
  cases g
  · go_enter Tryd.func115, Tryd.ntmps115
    go_wp2
    go_ret
    exact ⟨rfl, rfl⟩
  · go_enter Tryd.func115, Tryd.ntmps115
    go_wp2
    go_ret
    exact ⟨rfl, rfl⟩
end Go.Proofs.YtjkonfopajihdaaDoor
set_option linter.unusedSimpArgs false
set_option linter.unusedVariables false
namespace Go.Proofs.YtjkonfopajihdaaDoor
open Go Go.RowKit Nt

theorem len64_nd (m : Nat) (hm : m < 18446744073709551616) (w : World) : Calls Tryd.prog 114 #[.int .u64 (m : Nat)] w fun e w' => e = .returned (.int .i64 (nd 2 m : Nat)) ∧ w' = w := by
  have := Tryd.bits_Len64 (m : Int) w (by omega) (by omega)
  rw [Int.toNat_natCast, bitLen_nd hm] at this
  exact this
/-- What briefSum leaves: nothing, or the sum. -/
def BrPost (a b : Dy) (w : World) (e : Ending) (w' : World) : Prop := ∃ (D : Dy) (ok : Bool), e = .returned (.tuple #[.agg #[.bool D.g, .string (natS D.n), .int .i64 D.x], .bool ok]) ∧ (ok = true → D = hiD a b ∧ hiE a b = 0) ∧ Below w.heap.size w w'
theorem TB3 {w : World} {a b : Dt} {W w1 : World} {o : Obj} (h : TB w a b W) (hb : Below (W.alloc o).heap.size (W.alloc o) w1) : TB w a b w1 := (h.more o).step hb
theorem pow_lt62 {m j : Nat} (h : nd 2 m + j ≤ 62) : m * 2 ^ j < 4611686018427387904 := by
  have h1 : m < 2 ^ nd 2 m := lt_nd (by omega)
  have h2 : m * 2 ^ j < 2 ^ nd 2 m * 2 ^ j := Nat.mul_lt_mul_of_pos_right h1 (Nat.two_pow_pos j)
  rw [← Nat.pow_add] at h2
  exact Nat.lt_of_lt_of_le h2 (Nat.le_trans (Nat.pow_le_pow_right (by omega) h) (by decide))
theorem lt62 {m : Nat} (h : nd 2 m ≤ 62) : m < 4611686018427387904 := by
  have := pow_lt62 (m := m) (j := 0) (by omega)
  rwa [Nat.pow_zero, Nat.mul_one] at this
set_option maxRecDepth 100000 in
set_option maxHeartbeats 2000000 in
theorem Dbrief_no (a b : Dy) (j : Nat) (w : World) (ha : a.Num) (hb : b.Num) (hj : j ≤ 3000000) (hno : brB a.n = false ∨ (brB a.n = true ∧ brB b.n = false) ∨ (brB a.n = true ∧ brB b.n = true ∧ 62 < j) ∨ (brB a.n = true ∧ brB b.n = true ∧ ¬ 62 < j ∧ 62 < nd 2 a.n + j) ∨ (brB a.n = true ∧ brB b.n = true ∧ ¬ 62 < j ∧ ¬ 62 < nd 2 a.n + j ∧ 62 < nd 2 b.n)) :
    Calls Tryd.prog 79 #[.agg #[.bool a.g, .string (natS a.n), .int .i64 a.x], .agg #[.bool b.g, .string (natS b.n), .int .i64 b.x], .int .i64 (j : Nat)] w (BrPost a b w) := by
  have KA := Lib.hid (fun w => Small_c a.n w ha.1)
  have KB := Lib.hid (fun w => Small_c b.n w hb.1)
  have hba := bits_131072' ha.1
  have hbb := bits_131072' hb.1
  have T0 := TB.start w a.t b.t
  unfold Dy.t at T0
  have KLa : Hid (∀ w, brB a.n = true → Calls Tryd.prog 114 #[.int .u64 (brN a.n : Nat)] w fun e w' => e = .returned (.int .i64 (nd 2 a.n : Nat)) ∧ w' = w) := Lib.hid fun w h => by
    have h1 := br_lt.1 (brB_true h)
    have h2 : brN a.n = a.n := brN_yes (brB_true h)
    rw [h2]; exact len64_nd a.n h1 w
  have KLb : Hid (∀ w, brB b.n = true → Calls Tryd.prog 114 #[.int .u64 (brN b.n : Nat)] w fun e w' => e = .returned (.int .i64 (nd 2 b.n : Nat)) ∧ w' = w) := Lib.hid fun w h => by
    have h1 := br_lt.1 (brB_true h)
    have h2 : brN b.n = b.n := brN_yes (brB_true h)
    rw [h2]; exact len64_nd b.n h1 w
  clear ha hb
  rcases hno with c1 | ⟨c1, c2⟩ | ⟨c1, c2, c3⟩ | ⟨c1, c2, c3, c4⟩ | ⟨c1, c2, c3, c4, c5⟩
  all_goals
    go_enter Tryd.func79, Tryd.ntmps79
    go_wp2_with fail
    refine (KA.out _).mono ?_
    rintro e w1 ⟨rfl, hb⟩
    have hb1 := (TB.start w a.t b.t).more (.cells #[.bool false, .string ⟨#[]⟩, .int .i64 0] 24) |>.1
    obtain ⟨hcl, hfz⟩ := bcell hb
    have hsz : w.heap.size + 2 < w1.heap.size := by have := hb.size; simp at this; omega
    replace T0 := TB3 T0 hb
    obtain ⟨p0, p1, p2, p3, p4, p5, p6⟩ := T0.2.1.facts
    obtain ⟨q0, q1, q2, q3, q4, q5, q6⟩ := T0.2.2.facts
    go_wp2_with fail
    refine (KB.out _).mono ?_
    rintro e w2 ⟨rfl, hbb2⟩
    replace T0 := T0.step hbb2
    have hb3 := hb.trans (hbb2.mono hb.size)
    clear hb hbb2 hcl hfz p0 p1 p2 p3 p4 p5 p6 q0 q1 q2 q3 q4 q5 q6
    obtain ⟨hcl, hfz⟩ := bcell hb3
    have hsz2 : w.heap.size + 2 < w2.heap.size := by have := hb3.size; simp at this; omega
    go_wp2_with (first
      | (go_at_call 114; (with_reducible refine (KLa.out _ c1).mono ?_); rintro e w' ⟨rfl, rfl⟩)
      | (go_at_call 114; (with_reducible refine (KLb.out _ c2).mono ?_); rintro e w' ⟨rfl, rfl⟩))
    refine bodyPost_ret (v := .tuple #[.agg #[.bool false, .string ⟨#[]⟩, .int .i64 0], .bool false]) (by simp [results, Tryd.results79, go_sem, hcl, hsz, hsz2]) rfl ⟨Dy.zero, false, by rw [← natS_zero]; rfl, fun c => (by cases c), ?_⟩
    repeat (refine Below.setCell ?_ (by simp; omega) _)
    exact T0.1
end Go.Proofs.YtjkonfopajihdaaDoor
set_option linter.unusedSimpArgs false
set_option linter.unusedVariables false
namespace Go.Proofs.YtjkonfopajihdaaDoor
open Go Go.RowKit Nt

theorem shl_u64 {m j X : Nat} (hX : X = m * 2 ^ j) (h : X < 18446744073709551616) : Hid (IntKind.u64.wrap ((m : Int) * 2 ^ j) = (X : Int)) := Lib.hid (by
  rw [wr_pow (s := 2 ^ j) rfl, ← hX, IntKind.wrap_u64]; clear hX; omega)
theorem sgnd_b (g : Bool) {m : Nat} (h : m < 4611686018427387904) : -4611686018427387904 < sgnd g m ∧ sgnd g m < 4611686018427387904 := by
  unfold sgnd; cases g <;> simp <;> omega
set_option maxRecDepth 100000 in
set_option maxHeartbeats 2000000 in
theorem Dbrief_yes (a b : Dy) (j : Nat) (w : World) (ha : a.Num) (hb : b.Num) (hj : j = (a.x - b.x).toNat) (c1 : brB a.n = true) (c2 : brB b.n = true) (c3 : ¬ 62 < j) (c4 : ¬ 62 < nd 2 a.n + j) (c5 : ¬ 62 < nd 2 b.n) :
    Calls Tryd.prog 79 #[.agg #[.bool a.g, .string (natS a.n), .int .i64 a.x], .agg #[.bool b.g, .string (natS b.n), .int .i64 b.x], .int .i64 (j : Nat)] w (BrPost a b w) := by
  have hna : brN a.n = a.n := brN_yes (brB_true c1)
  have hnb : brN b.n = b.n := brN_yes (brB_true c2)
  have KA := Lib.hid (fun w => Small_c a.n w ha.1)
  have KB := Lib.hid (fun w => Small_c b.n w hb.1)
  rw [hna, c1] at KA
  rw [hnb, c2] at KB
  have T0 := TB.start w a.t b.t
  unfold Dy.t at T0
  have KLa := Lib.hid (fun w => len64_nd a.n (br_lt.1 (brB_true c1)) w)
  have KLb := Lib.hid (fun w => len64_nd b.n (br_lt.1 (brB_true c2)) w)
  obtain ⟨X, hX⟩ : ∃ X, X = a.n * 2 ^ j := ⟨_, rfl⟩
  have hXb : X < 4611686018427387904 := by rw [hX]; exact pow_lt62 (by omega)
  have hYb : b.n < 4611686018427387904 := lt62 (by omega)
  have HSH := shl_u64 hX (by omega)
  have KSa := Lib.hid (fun w => Dsigned_c a.g X w (by omega))
  have KSb := Lib.hid (fun w => Dsigned_c b.g b.n w (by omega))
  have hs1 := sgnd_b a.g hXb
  have hs2 := sgnd_b b.g hYb
  have hxb := hb.2.2
  obtain ⟨S, hS⟩ : ∃ S, sgnd a.g X + sgnd b.g b.n = S := ⟨_, rfl⟩
  have KO := Lib.hid (fun w => DOf_c S b.x w (by omega) (by omega))
  have hmk := sum_mk a.g b.g X b.n b.x
  have hme := sum_abs a.g b.g X b.n
  rw [hS] at hmk hme
  have hup : upN a b = X := by rw [upN_eq, ← hj, hX]
  have hD : mkD (decide (S < 0)) S.natAbs b.x = hiD a b := by rw [hiD_eq, hup]; exact hmk
  have hE : mkE S.natAbs b.x = hiE a b := by rw [hiE_eq, hup, hme]
  unfold MkPost at KO
  rw [hD, hE] at KO
  have hw : IntKind.i64.wrap S = S := IntWalk.i64_in _ (by omega)
  have hw2 : wrap64 S = S := IntWalk.wrap64_in _ (by omega)
  have HD : (hiE a b == 0) = true ↔ hiE a b = 0 := beq_iff_eq
  clear hX hmk hme hup hD hE ha hb hna hnb c1 c2 hj
  generalize sgnd a.g X = s1 at *
  generalize sgnd b.g b.n = s2 at *
  have HDD := Lib.hid HD
  clear HD
  generalize hE9 : hiE a b = E at *
  have HE9 := Lib.hid hE9
  clear hE9
  generalize hh : hiD a b = D at *
  have HH := Lib.hid hh
  clear hh
  go_enter Tryd.func79, Tryd.ntmps79
  go_wp2_with fail
  refine (KA.out _).mono ?_
  rintro e w1 ⟨rfl, hb⟩
  have hsz : w.heap.size + 2 < w1.heap.size := by have := hb.size; simp at this; omega
  replace T0 := TB3 T0 hb
  obtain ⟨p0, p1, p2, p3, p4, p5, p6⟩ := T0.2.1.facts
  obtain ⟨q0, q1, q2, q3, q4, q5, q6⟩ := T0.2.2.facts
  go_wp2_with fail
  refine (KB.out _).mono ?_
  rintro e w2 ⟨rfl, hbb2⟩
  replace T0 := T0.step hbb2
  have hb3 := hb.trans (hbb2.mono hb.size)
  clear hb hbb2 p0 p1 p2 p3 p4 p5 p6 q0 q1 q2 q3 q4 q5 q6
  go_wp2_with (first
    | (go_at_call 114; (with_reducible refine (KLa.out _).mono ?_); rintro e w' ⟨rfl, rfl⟩)
    | (go_at_call 114; (with_reducible refine (KLb.out _).mono ?_); rintro e w' ⟨rfl, rfl⟩))
  have L0 := fun W (h : TB w ⟨a.g, natS a.n, a.x⟩ ⟨b.g, natS b.n, b.x⟩ W) => h.2.1.facts.2.1
  have L3 := fun W (h : TB w ⟨a.g, natS a.n, a.x⟩ ⟨b.g, natS b.n, b.x⟩ W) => h.2.2.facts.2.1
  go_region_held3 (TB w ⟨a.g, natS a.n, a.x⟩ ⟨b.g, natS b.n, b.x⟩) (first | assumption | exact TB.step (by assumption) (by assumption) | exact TB.drew (by assumption) | exact TB.drawn (by assumption) _)
    (first
      | (go_at_call 115; rw [HSH.out]; (with_reducible refine (KSa.out _).mono ?_); rintro e w' ⟨rfl, rfl⟩)
      | (go_at_call 115; (with_reducible refine (KSb.out _).mono ?_); rintro e w' ⟨rfl, rfl⟩))
  rename_i hHeld
  clear T0 L0 L3
  have T0 := hHeld
  clear hHeld
  have hb4 := hb3.drew
  clear hb3
  generalize w'.drew = w3 at *
  obtain ⟨p0, p1, p2, p3, p4, p5, p6⟩ := T0.2.1.facts
  obtain ⟨q0, q1, q2, q3, q4, q5, q6⟩ := T0.2.2.facts
  go_wp2_with fail
  refine (KO.out _).mono ?_
  rintro e w4 ⟨rfl, hb5⟩
  replace T0 := T0.step hb5
  have hb6 := (hb4.trans (hb5.mono hb4.size)).alloc (hb4.trans (hb5.mono hb4.size)).size (.cells #[.bool D.g, .string (natS D.n), .int .i64 D.x] 24)
  have hb7 := (T0.more (.cells #[.bool D.g, .string (natS D.n), .int .i64 D.x] 24)).1
  clear hb4 hb5 p0 p1 p2 p3 p4 p5 p6 q0 q1 q2 q3 q4 q5 q6
  obtain ⟨hcl, hfz⟩ := bcell hb6
  have hsz2 : w.heap.size + 2 < w4.heap.size + 1 := by have := hb6.size; simp at this; omega
  unfold Dy.v
  by_cases hE0 : E = 0
  · subst hE0
    go_wp2_with fail
    refine bodyPost_ret (v := .tuple #[.agg #[.bool D.g, .string (natS D.n), .int .i64 D.x], .bool true]) (by simp [results, Tryd.results79, go_sem, hcl, hsz, hsz2]) rfl ⟨D, true, rfl, fun _ => ⟨HH.out.symm, HE9.out⟩, ?_⟩
    repeat (refine Below.setCell ?_ (by simp; omega) _)
    exact hb7
  · have hE1 : (E == 0) = false := by rw [beq_eq_false_iff_ne]; exact hE0
    go_wp2_with fail
    refine bodyPost_ret (v := .tuple #[.agg #[.bool D.g, .string (natS D.n), .int .i64 D.x], .bool false]) (by simp [results, Tryd.results79, go_sem, hcl, hsz, hsz2]) rfl ⟨D, false, rfl, fun c => (by cases c), ?_⟩
    repeat (refine Below.setCell ?_ (by simp; omega) _)
    exact hb7
end Go.Proofs.YtjkonfopajihdaaDoor
