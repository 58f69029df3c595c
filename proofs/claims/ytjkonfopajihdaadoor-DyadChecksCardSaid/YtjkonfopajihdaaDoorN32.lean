/- Contracts of package nat: Len, Shift. -/
import Derived.Test.YtjkonfopajihdaaDoorN21
set_option linter.unusedSimpArgs false
set_option linter.unusedVariables false
namespace Go.Proofs.YtjkonfopajihdaaDoor
open Go Go.RowKit Nt

set_option maxRecDepth 100000 in
theorem NLen_no (s : ByteArray) (w : World) (h : ¬ May s) :
    Calls Tryd.prog 58 #[.string s] w (IntPost 0 2 w) := by
  have hm := may1_no h
  go_enter Tryd.func58, Tryd.ntmps58
  go_wp2_with (go_at_call 59; refine (Check_c _ _).mono ?_; rintro e w1 ⟨rfl, hb⟩)
  go_ret2
  exact ⟨rfl, hb⟩
set_option maxRecDepth 100000 in
theorem NLen_c (n : Nat) (w : World) (hf : fits n) :
    Calls Tryd.prog 58 #[.string (natS n)] w (IntPost (nd 2 n : Nat) 0 w) := by
  have hm := may1 hf
  by_cases h0 : n = 0
  · have hE := natS_empty h0
    have HZ := Lib.hid (show nd 2 n = 0 by rw [h0, nd_zero])
    clear h0
    go_enter Tryd.func58, Tryd.ntmps58
    go_wp2_with (go_at_call 59; refine (Check_c _ _).mono ?_; rintro e w1 ⟨rfl, hb⟩)
    go_ret2
    exact ⟨by rw [HZ.out]; rfl, hb⟩
  · have hE := natS_full h0
    have hE2 := natS_full2 h0
    have hsz := natS_size n
    obtain ⟨L, hL⟩ : ∃ L, nd 256 n = L + 1 := ⟨nd 256 n - 1, by
      rcases Nat.eq_zero_or_pos (nd 256 n) with h | h
      · exact absurd ((nd_eq_zero (by omega)).1 h) h0
      · omega⟩
    have HT := Lib.hid (nd_top (b := 2) (c := 256) (e := 8) (by omega) (by omega) (by rfl) n h0)
    have hp : 0 < (natS n).size := by omega
    have hg := natS_get n 0 hp
    unfold fits at hf
    rw [hL] at hsz hg HT hf
    have hlt : (natS n)[0].toNat < 256 := (natS n)[0].toNat_lt
    have hbl := bitLen_nd (x := (natS n)[0].toNat) (by omega)
    have hle : nd 2 (natS n)[0].toNat ≤ 8 := nd_le (by omega) (by omega)
    have hfin : 8 * (L : Int) + (Go.Lib.bitLen (natS n)[0].toNat : Int) = (nd 2 n : Int) := by
      have h1 := HT.out
      rw [Nat.add_sub_cancel, Nat.sub_zero] at hg
      rw [Nat.add_sub_cancel, ← hg] at h1
      rw [hbl, h1]; omega
    have hle2 : Go.Lib.bitLen (natS n)[0].toNat ≤ 8 := by rw [hbl]; exact hle
    have HF := Lib.hid hfin
    clear hfin hg hbl hle h0
    go_enter Tryd.func58, Tryd.ntmps58
    go_wp2_with (first | (go_at_call 59; refine (Check_c _ _).mono ?_; rintro e w1 ⟨rfl, hb⟩) | (go_at_call 96; refine (Tryd.bits_Len8 _ _ (by omega) (by omega)).mono ?_; rintro e w' ⟨rfl, rfl⟩))
    go_ret2
    refine ⟨?_, hb⟩
    have h2 := HF.out
    simp only [Int.toNat_natCast]
    rw [← h2]; rfl
end Go.Proofs.YtjkonfopajihdaaDoor
