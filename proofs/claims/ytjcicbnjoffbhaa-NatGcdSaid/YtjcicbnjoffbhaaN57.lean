/- Contracts of package limb: less, back. -/
import Derived.Test.YtjcicbnjoffbhaaN56
set_option linter.unusedSimpArgs false
set_option linter.unusedVariables false
namespace Go.Proofs.Ytjcicbnjoffbhaa
open Go Go.RowKit Nt

/-- One word of a multiple taken away. -/
theorem less_words (q y c x b : Nat) (hq : q < 18446744073709551616) (hy : y < 18446744073709551616) (hc : c < 18446744073709551616) (hx : x < 18446744073709551616) (hb : b ≤ 1) : ∃ hi lo lo2 c1 cy d b2 : Nat,
    (∀ w, Calls Try.prog 75 #[.int .u64 (q : Nat), .int .u64 (y : Nat)] w fun e w' => e = .returned (.tuple #[.int .u64 (hi : Nat), .int .u64 (lo : Nat)]) ∧ w = w') ∧
    (∀ w, (callFunc 95 #[.int .u64 (lo : Nat), .int .u64 (c : Nat), .int .u64 0]).run Try.prog w = .ok (.value (.tuple #[.int .u64 (lo2 : Nat), .int .u64 (c1 : Nat)])) w) ∧
    IntKind.u64.wrap ((hi : Int) + (c1 : Int)) = (cy : Int) ∧
    (∀ w, (callFunc 92 #[.int .u64 (x : Nat), .int .u64 (lo2 : Nat), .int .u64 (b : Nat)]).run Try.prog w = .ok (.value (.tuple #[.int .u64 (d : Nat), .int .u64 (b2 : Nat)])) w) ∧
    d < 18446744073709551616 ∧ cy < 18446744073709551616 ∧ b2 ≤ 1 ∧ cy = (q * y + c) / W ∧ d + (q * y + c) % W + b = x + W * b2 := by
  have hp := prod_lt hq hy
  have h1 := Try.bits_Add64 (q * y % 18446744073709551616) c 0 (by omega)
  have hl := Nat.mod_lt (q * y % 18446744073709551616 + c + 0) (show 0 < 18446744073709551616 by omega)
  have h2 := Try.bits_Sub64 x ((q * y % 18446744073709551616 + c + 0) % 18446744073709551616) b hb
  refine ⟨q * y / 18446744073709551616, q * y % 18446744073709551616, (q * y % 18446744073709551616 + c + 0) % 18446744073709551616, (q * y % 18446744073709551616 + c + 0) / 18446744073709551616,
    q * y / 18446744073709551616 + (q * y % 18446744073709551616 + c + 0) / 18446744073709551616, _, _, ?_, h1, ?_, h2, ?_, ?_, ?_, ?_, ?_⟩
  · intro w
    refine (Try.bits_Mul64 q y hq hy w).mono ?_
    rintro e w' ⟨rfl, rfl⟩; exact ⟨rfl, rfl⟩
  · refine wadd_nat rfl ?_
    generalize q * y = p at *; omega
  · exact Nat.mod_lt _ (by omega)
  · generalize q * y = p at *; omega
  · split <;> omega
  · rw [W_eq]; generalize q * y = p at *; omega
  · rw [W_eq]
    have e : (q * y % 18446744073709551616 + c + 0) % 18446744073709551616 = (q * y + c) % 18446744073709551616 := by generalize q * y = p at *; omega
    rw [e]
    have hm := Nat.mod_lt (q * y + c) (show 0 < 18446744073709551616 by omega)
    generalize (q * y + c) % 18446744073709551616 = m at *
    split <;> omega
/-- No other block is touched. -/
def Only (g : Nat) (w w' : World) : Prop := ∀ x, x ≠ g → w'.heap[x]? = w.heap[x]?
theorem Only.refl (g : Nat) (w : World) : Only g w w := fun _ _ => rfl
theorem Only.set {g i : Nat} {w w' : World} (h : Only g w w') (u : Value) : Only g w (w'.setCell ⟨g, i, none⟩ u) := fun x hx => (Below.heap_setCell w' ⟨g, i, none⟩ u x hx).trans (h x hx)
theorem Only.blk {g x : Nat} {T : TypeId} {cs : Array Value} {w w' : World} (h : Only g w w') (hx : x ≠ g) (hb : Blk w x T cs) : Blk w' x T cs := (h x hx).trans hb
/-- What taking a multiple away leaves. -/
def LessPost (g k n L U v q : Nat) (T : TypeId) (w : World) (e : Ending) (w' : World) : Prop :=
  ∃ (Z b : Nat) (bb : Bool), e = .returned (.bool bb) ∧ (bb = decide (b ≠ 0)) ∧ b ≤ 1 ∧ Blk w' g T (wcells Z L) ∧ Only g w w' ∧ Below g w w' ∧ Z < W ^ (k + n + 1) ∧ Z + W ^ k * (q * v) = U + W ^ (k + n + 1) * b
set_option maxRecDepth 100000 in
set_option maxHeartbeats 2000000 in
theorem Less_c (g k n L U v q cp cv : Nat) (Av : Option Addr) (w : World) (hb : Blk w g 23 (wcells U L)) (hL : k + n + 1 ≤ L) (hL2 : L ≤ 1000000000) (hv : Row w g Av v n) (hvn : v < W ^ n) (hq : q < 18446744073709551616) (hU : U < W ^ (k + n + 1)) (hcp : n + 1 ≤ cp) :
    Calls Try.prog 100 #[.slice (some ⟨g, k, none⟩) (n + 1) cp, .slice Av n cv, .int .u64 (q : Nat)] w (LessPost g k n L U v q 23 w) := by
  have HB := Lib.hid hb
  have HV := Lib.hid hv
  have HVN := Lib.hid hvn
  have HQ := Lib.hid hq
  have HU := Lib.hid hU
  have HL := Lib.hid hL
  have hn : n ≤ 1000000000 := by omega
  have HL2 := Lib.hid hL2
  have HCP := Lib.hid hcp
  clear hb hv hvn hq hU hL hL2 hcp
  go_enter Try.func100, Try.ntmps100
  go_wp2_with fail
  go_loopw [7, 8, 16] (fun c b i wr => ∃ (j Z cc bb : Nat), j ≤ n ∧ i = .int .i64 j ∧ c = .int .u64 cc ∧ b = .int .u64 bb ∧ Hid (cc < 18446744073709551616 ∧ bb ≤ 1) ∧ Hid (subI U v q k j Z cc bb) ∧ Hid (Z < W ^ (k + n + 1)) ∧ Hid (Blk wr g 23 (wcells Z L)) ∧ Hid (Only g w wr) ∧ Below g w wr) (fun _ _ i _ => n - (intOf i).toNat)
  case atStart => exact ⟨0, U, 0, 0, Nat.zero_le _, rfl, rfl, rfl, Lib.hid ⟨by omega, by omega⟩, Lib.hid (subI_first U v q k), HU, HB, Lib.hid (Only.refl _ _), Below.refl _ _⟩
  case round =>
    obtain ⟨j, Z, cc, bb, hj, rfl, rfl, rfl, hcb, hsub, hZ, hblk, hon, hbw⟩ := hrel
    by_cases hlt : j < n
    · obtain ⟨gv, rfl, hgv, hcv⟩ := HV.out.at_ hlt
      have hcv2 := (hbw.cell (p := ⟨gv, j, none⟩) hgv).trans hcv
      have hcz := hblk.out.cell (k + j)
      rw [wcells_get _ _ _ (by have := HL.out; omega)] at hcz
      have hfz := hblk.out.frozen (k + j)
      obtain ⟨hi, lo, lo2, c1, cy, d, b2, hmul, ha1, hw1, hs1, hd, hcy, hb2, hcye, hde⟩ := less_words q (dgt W v j) cc (dgt W Z (k + j)) bb HQ.out (wd_lt _ _) hcb.out.1 (wd_lt _ _) hcb.out.2
      have HN := Lib.hid (subI_step hsub.out rfl hde)
      rw [← hcye] at HN
      have HZ := Lib.hid (put_lt W2 (by rw [W_eq]; exact hd) hZ.out (show k + j < k + n + 1 by omega))
      have HB1 := hblk.out.set_ (k + j) (.int .u64 (d : Nat))
      rw [wcells_set _ _ _ _ hd] at HB1
      have HB2 := Lib.hid HB1
      have hb1 := hbw.setCell (p := ⟨g, k + j, none⟩) (Nat.le_refl _) (.int .u64 (d : Nat))
      have HON := Lib.hid (hon.out.set (i := k + j) (.int .u64 (d : Nat)))
      have KM := Lib.hid hmul
      have HCB : Hid (cy < 18446744073709551616 ∧ b2 ≤ 1) := Lib.hid ⟨hcy, hb2⟩
      have HD := Lib.hid hd
      generalize dgt W v j = y at *
      generalize dgt W Z (k + j) = x at *
      clear hmul hcv hcye hde HB1 hd hcy hb2
      go_wp2_with fail
      refine (KM.out _).mono ?_
      rintro e w2 ⟨rfl, rfl⟩
      go_wp2_with (first | simp only [ha1] | simp only [hs1])
      go_roundw
      case rel => exact ⟨j + 1, _, cy, b2, by omega, by go_num, rfl, rfl, HCB, HN, HZ, HB2, HON, hb1⟩
      case measure => simp [intOf]; omega
    · obtain rfl : j = n := by omega
      have hcz := hblk.out.cell (k + j)
      rw [wcells_get _ _ _ (by have := HL.out; omega)] at hcz
      have hfz := hblk.out.frozen (k + j)
      have hcb1 := hcb.out
      have hx := wd_lt Z (k + j)
      have h2 := Try.bits_Sub64 (dgt W Z (k + j)) cc bb hcb1.2
      obtain ⟨d, hd⟩ : ∃ d, d = (dgt W Z (k + j) + 18446744073709551616 - cc - bb) % 18446744073709551616 := ⟨_, rfl⟩
      obtain ⟨b2, hb2⟩ : ∃ b2, b2 = (if dgt W Z (k + j) < cc + bb then 1 else 0) := ⟨_, rfl⟩
      rw [← hd, ← hb2] at h2
      have hd1 : d < 18446744073709551616 := by rw [hd]; exact Nat.mod_lt _ (by omega)
      have hb1' : b2 ≤ 1 := by rw [hb2]; split <;> omega
      have hvz : dgt W v j = 0 := dgt_of_lt W2 HVN.out (Nat.le_refl _)
      have hcw : cc % W = cc := Nat.mod_eq_of_lt (by rw [W_eq]; exact hcb1.1)
      have hcd : cc / W = 0 := Nat.div_eq_of_lt (by rw [W_eq]; exact hcb1.1)
      have hde : d + (q * dgt W v j + cc) % W + bb = dgt W Z (k + j) + W * b2 := by
        rw [hvz, Nat.mul_zero, Nat.zero_add, hcw, hd, hb2]
        generalize dgt W Z (k + j) = x at *
        rw [W_eq]
        split <;> omega
      have hstep := subI_step hsub.out rfl hde
      rw [hvz, Nat.mul_zero, Nat.zero_add, hcd] at hstep
      have hlast := subI_last hstep HVN.out
      have HZ := Lib.hid (put_lt W2 (by rw [W_eq]; exact hd1) hZ.out (show k + j < k + j + 1 by omega))
      have HB1 := hblk.out.set_ (k + j) (.int .u64 (d : Nat))
      rw [wcells_set _ _ _ _ hd1] at HB1
      have HB2 := Lib.hid HB1
      have hb1 := hbw.setCell (p := ⟨g, k + j, none⟩) (Nat.le_refl _) (.int .u64 (d : Nat))
      have HON := Lib.hid (hon.out.set (i := k + j) (.int .u64 (d : Nat)))
      have HLAST := Lib.hid hlast
      have HB1L := Lib.hid hb1'
      have hjj : j < j + 1 := by omega
      generalize dgt W Z (k + j) = x at *
      clear hd hb2 hd1 hvz hcw hcd hde hstep hlast HB1 hx hcb1 hb1'
      by_cases hz : b2 = 0
      · have hbf : ((b2 : Int) != 0) = false := by subst hz; rfl
        have HZ2 := Lib.hid hz
        clear hz
        go_wp2_with (first | simp only [h2])
        go_ret
        exact ⟨_, b2, _, rfl, by rw [HZ2.out]; rfl, HB1L.out, HB2.out, HON.out, hb1, HZ.out, HLAST.out⟩
      · have hbf : ((b2 : Int) != 0) = true := by rw [bne_iff_ne]; omega
        have HZ2 := Lib.hid hz
        clear hz
        go_wp2_with (first | simp only [h2])
        go_ret
        exact ⟨_, b2, _, rfl, (decide_eq_true HZ2.out).symm, HB1L.out, HB2.out, HON.out, hb1, HZ.out, HLAST.out⟩
end Go.Proofs.Ytjcicbnjoffbhaa
