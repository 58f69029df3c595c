/- Contracts of package limb: back. -/
import Derived.Test.YtjcicbnjoffbhaaN57
set_option linter.unusedSimpArgs false
set_option linter.unusedVariables false
namespace Go.Proofs.Ytjcicbnjoffbhaa
open Go Go.RowKit Nt

/-- What adding the divisor back leaves. -/
def BackPost (g k n L U v : Nat) (T : TypeId) (w : World) (e : Ending) (w' : World) : Prop :=
  ∃ (Z c : Nat), e = .returned (.tuple #[]) ∧ c ≤ 1 ∧ Blk w' g T (wcells Z L) ∧ Only g w w' ∧ Below g w w' ∧ Z < W ^ (k + n + 1) ∧ Z + W ^ (k + n + 1) * c = U + W ^ k * v
theorem back_words (x y c : Nat) (hx : x < 18446744073709551616) (hy : y < 18446744073709551616) (hc : c ≤ 1) : ∃ d c2 : Nat,
    (∀ w, (callFunc 95 #[.int .u64 (x : Nat), .int .u64 (y : Nat), .int .u64 (c : Nat)]).run Try.prog w = .ok (.value (.tuple #[.int .u64 (d : Nat), .int .u64 (c2 : Nat)])) w) ∧
    d < 18446744073709551616 ∧ c2 ≤ 1 ∧ d + W * c2 = x + y + c :=
  ⟨_, _, fun w => Try.bits_Add64 x y c hc w, Nat.mod_lt _ (by omega), by omega, by rw [W_eq]; omega⟩
set_option maxRecDepth 100000 in
set_option maxHeartbeats 2000000 in
theorem Back_c (g k n L U v cp cv : Nat) (Av : Option Addr) (w : World) (hb : Blk w g 23 (wcells U L)) (hL : k + n + 1 ≤ L) (hL2 : L ≤ 1000000000) (hv : Row w g Av v n) (hvn : v < W ^ n) (hU : U < W ^ (k + n + 1)) (hcp : n + 1 ≤ cp) :
    Calls Try.prog 101 #[.slice (some ⟨g, k, none⟩) (n + 1) cp, .slice Av n cv] w (BackPost g k n L U v 23 w) := by
  have HB := Lib.hid hb
  have HV := Lib.hid hv
  have HVN := Lib.hid hvn
  have HU := Lib.hid hU
  have HL := Lib.hid hL
  have hn : n ≤ 1000000000 := by omega
  have HL2 := Lib.hid hL2
  have HCP := Lib.hid hcp
  clear hb hv hvn hU hL hL2 hcp
  go_enter Try.func101, Try.ntmps101
  go_wp2_with fail
  go_loopw [4, 9] (fun c i wr => ∃ (j Z cc : Nat), j ≤ n ∧ i = .int .i64 j ∧ c = .int .u64 cc ∧ Hid (cc ≤ 1) ∧ Hid (addI U v k j Z cc) ∧ Hid (Z < W ^ (k + n + 1)) ∧ Hid (Blk wr g 23 (wcells Z L)) ∧ Hid (Only g w wr) ∧ Below g w wr) (fun _ i _ => n - (intOf i).toNat)
  case atStart => exact ⟨0, U, 0, Nat.zero_le _, rfl, rfl, Lib.hid (by omega), Lib.hid (addI_first U v k), HU, HB, Lib.hid (Only.refl _ _), Below.refl _ _⟩
  case round =>
    obtain ⟨j, Z, cc, hj, rfl, rfl, hcb, hadd, hZ, hblk, hon, hbw⟩ := hrel
    by_cases hlt : j < n
    · obtain ⟨gv, rfl, hgv, hcv⟩ := HV.out.at_ hlt
      have hcv2 := (hbw.cell (p := ⟨gv, j, none⟩) hgv).trans hcv
      have hcz := hblk.out.cell (k + j)
      rw [wcells_get _ _ _ (by have := HL.out; omega)] at hcz
      have hfz := hblk.out.frozen (k + j)
      obtain ⟨d, c2, ha1, hd, hc2, hde⟩ := back_words (dgt W Z (k + j)) (dgt W v j) cc (wd_lt _ _) (wd_lt _ _) hcb.out
      have HN := Lib.hid (addI_step hadd.out hde)
      have HZ := Lib.hid (put_lt W2 (by rw [W_eq]; exact hd) hZ.out (show k + j < k + n + 1 by omega))
      have HB1 := hblk.out.set_ (k + j) (.int .u64 (d : Nat))
      rw [wcells_set _ _ _ _ hd] at HB1
      have HB2 := Lib.hid HB1
      have hb1 := hbw.setCell (p := ⟨g, k + j, none⟩) (Nat.le_refl _) (.int .u64 (d : Nat))
      have HON := Lib.hid (hon.out.set (i := k + j) (.int .u64 (d : Nat)))
      have HC2 := Lib.hid hc2
      generalize dgt W v j = y at *
      generalize dgt W Z (k + j) = x at *
      clear hcv hde HB1 hd hc2
      go_wp2_with (first | simp only [ha1])
      go_roundw
      case rel => exact ⟨j + 1, _, c2, by omega, by go_num, rfl, HC2, HN, HZ, HB2, HON, hb1⟩
      case measure => simp [intOf]; omega
    · obtain rfl : j = n := by omega
      have hcz := hblk.out.cell (k + j)
      rw [wcells_get _ _ _ (by have := HL.out; omega)] at hcz
      have hfz := hblk.out.frozen (k + j)
      have hx := wd_lt Z (k + j)
      have hcb1 := hcb.out
      obtain ⟨d, hd⟩ : ∃ d, d = (dgt W Z (k + j) + cc) % 18446744073709551616 := ⟨_, rfl⟩
      obtain ⟨c2, hc2⟩ : ∃ c2, c2 = (dgt W Z (k + j) + cc) / 18446744073709551616 := ⟨_, rfl⟩
      have hd1 : d < 18446744073709551616 := by rw [hd]; exact Nat.mod_lt _ (by omega)
      have hvz : dgt W v j = 0 := dgt_of_lt W2 HVN.out (Nat.le_refl _)
      have hde : d + W * c2 = dgt W Z (k + j) + dgt W v j + cc := by
        rw [hvz, hd, hc2]
        generalize dgt W Z (k + j) = x at *
        rw [W_eq]; omega
      have hlast := addI_last (addI_step hadd.out hde) HVN.out
      have hw : IntKind.u64.wrap ((dgt W Z (k + j) : Nat) + (cc : Nat) : Int) = (d : Int) := by rw [IntKind.wrap_u64]; omega
      have HZ := Lib.hid (put_lt W2 (by rw [W_eq]; exact hd1) hZ.out (show k + j < k + j + 1 by omega))
      have HB1 := hblk.out.set_ (k + j) (.int .u64 (d : Nat))
      rw [wcells_set _ _ _ _ hd1] at HB1
      have HB2 := Lib.hid HB1
      have hb1 := hbw.setCell (p := ⟨g, k + j, none⟩) (Nat.le_refl _) (.int .u64 (d : Nat))
      have HON := Lib.hid (hon.out.set (i := k + j) (.int .u64 (d : Nat)))
      have HLAST := Lib.hid hlast
      have HC2 := Lib.hid (show c2 ≤ 1 by omega)
      have hjj : j < j + 1 := by omega
      generalize dgt W Z (k + j) = x at *
      clear hd hc2 hd1 hvz hde hlast HB1 hx hcb1
      go_wp2_with fail
      go_end0
      exact ⟨_, c2, rfl, HC2.out, HB2.out, HON.out, hb1, HZ.out, HLAST.out⟩
end Go.Proofs.Ytjcicbnjoffbhaa
