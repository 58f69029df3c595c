/- The law NatGcd. -/
import Derived.Test.YtjcicbnjoffbhaaN62
import Derived.Test.YtjcicbnjoffbhaaN75
import Derived.Test.YtjcicbnjoffbhaaN47
set_option linter.unusedSimpArgs false
set_option linter.unusedVariables false
namespace Go.Proofs.Ytjcicbnjoffbhaa
open Go Go.RowKit Nt

def strOf : Value → ByteArray
  | .string s => s
  | _ => ⟨#[]⟩
set_option maxRecDepth 100000 in
set_option maxHeartbeats 1000000 in
theorem rGcd_c (a b : Nat) (w : World) (hA : nd 256 a ≤ 5000) (hB : nd 256 b ≤ 5000) :
    Calls Try.prog 50 #[.string (natS a), .string (natS b)] w (fun e w' => e = .returned (.string (natS (Nat.gcd a b))) ∧ Below w.heap.size w w') := by
  have HA := Lib.hid hA
  have HB := Lib.hid hB
  clear hA hB
  go_enter Try.func50, Try.ntmps50
  go_wp2_with fail
  go_loopw [0, 1] (fun ra rb wr => ∃ x y : Nat, ra = .string (natS x) ∧ rb = .string (natS y) ∧ Hid (Nat.gcd x y = Nat.gcd a b) ∧ Hid (nd 256 x ≤ 5000) ∧ Hid (nd 256 y ≤ 5000) ∧ Below w.heap.size w wr) (fun _ rb _ => bytesN (strOf rb))
  case atStart => exact ⟨a, b, rfl, rfl, Lib.hid rfl, HA, HB, Below.refl _ _⟩
  case round =>
    obtain ⟨x, y, rfl, rfl, hg, hx, hy, hbw⟩ := hrel
    by_cases hy0 : y = 0
    · subst hy0
      have hg2 := hg.out
      rw [Nat.gcd_zero_right] at hg2
      have HG2 := Lib.hid hg2
      rw [natS_zero]
      clear hg2 hg
      go_wp2_with fail
      go_ret
      exact ⟨by rw [← HG2.out]; rfl, hbw⟩
    · have hE := natS_full hy0
      have hE2 := natS_full2 hy0
      have KD := Lib.hid (fun w => rDiv_c x y w hy0 hx.out hy.out)
      have HY0 := Lib.hid hy0
      clear hy0
      go_wp2_with fail
      refine (KD.out _).mono ?_
      rintro e w1 ⟨rfl, hb1⟩
      go_wp2_with fail
      go_roundw
      case rel => exact ⟨y, x % y, rfl, rfl, Lib.hid (by rw [Nat.gcd_comm y, ← Nat.gcd_rec, Nat.gcd_comm]; exact hg.out), hy, Lib.hid (Nat.le_trans (nd_mono (by omega) (Nat.mod_le x y)) hx.out), below_chain hbw hb1⟩
      case measure =>
        have := Nat.mod_lt x (Nat.pos_of_ne_zero HY0.out)
        simpa [strOf, bytesN_natS] using this
end Go.Proofs.Ytjcicbnjoffbhaa
set_option linter.unusedSimpArgs false
set_option linter.unusedVariables false
namespace Go.Proofs.Ytjcicbnjoffbhaa
open Go Go.RowKit Nt

set_option maxRecDepth 100000 in
set_option maxHeartbeats 1000000 in
theorem NatGcd_law (s t : ByteArray) (hs : s.size ≤ maxLen) (ht : t.size ≤ maxLen) (w : World) :
    Calls Try.prog 10 #[.string s, .string t] w fun e w' => e = .returned (.bool true) ∧ Below w.heap.size w w' := by
  unfold maxLen at hs ht
  have hr := fun w => refused2 s t hs ht w
  by_cases hm : May s ∧ May t
  · rw [refB2_no hm.1 hm.2] at hr
    obtain ⟨a, ha, rfl⟩ := may_num hm.1
    obtain ⟨b, hb, rfl⟩ := may_num hm.2
    have hsa := natS_size a
    have hsb := natS_size b
    have HRF := Lib.hid hr
    have KM := Lib.hid (fun w => NGcd_c a b w ha hb)
    unfold fits at ha hb
    obtain ⟨A, hA⟩ : ∃ A, A = nd 256 a := ⟨_, rfl⟩
    obtain ⟨B, hB⟩ : ∃ B, B = nd 256 b := ⟨_, rfl⟩
    have HA := Lib.hid hA
    have HB := Lib.hid hB
    rw [← hA] at hsa ha
    rw [← hB] at hsb hb
    obtain ⟨Z, hZ⟩ : ∃ Z, Z = A + B := ⟨_, rfl⟩
    have hZI : (A : Int) + (B : Int) = (Z : Int) := by omega
    have HZ := Lib.hid hZ
    clear hr hm hs ht hA hB hZ
    by_cases h1 : 80 < Z
    · go_enter Try.func10, Try.ntmps10
      go_wp2_with fail
      refine (KM.out _).mono ?_
      rintro e w1 ⟨rfl, hb1⟩
      go_wp2_with fail
      refine (HRF.out _).mono ?_
      rintro e w2 ⟨rfl, hb2⟩
      go_wp2_with fail
      refine (awake_c _).mono ?_
      rintro e w4 ⟨rfl, hb4⟩
      go_wp2_with fail
      go_ret
      exact ⟨rfl, below_chain hb1 (below_chain hb2 hb4)⟩
    · have KR := Lib.hid (fun w => rGcd_c a b w (by have := HZ.out; have := HA.out; omega) (by have := HZ.out; have := HB.out; omega))
      have h1' : ¬ (80 : Int) < (Z : Int) := by omega
      go_enter Try.func10, Try.ntmps10
      go_wp2_with fail
      refine (KM.out _).mono ?_
      rintro e w1 ⟨rfl, hb1⟩
      go_wp2_with fail
      refine (HRF.out _).mono ?_
      rintro e w2 ⟨rfl, hb2⟩
      go_wp2_with fail
      refine (KR.out _).mono ?_
      rintro e w3 ⟨rfl, hb3⟩
      go_wp2_with fail
      refine (awake_c _).mono ?_
      rintro e w4 ⟨rfl, hb4⟩
      go_wp2_with fail
      go_ret
      exact ⟨rfl, below_chain hb1 (below_chain hb2 (below_chain hb3 hb4))⟩
  · rw [refB2_yes hm] at hr
    have KM := Lib.hid (fun w => NGcd_no s t w hm)
    have HRF := Lib.hid hr
    clear hr hm hs ht
    go_enter Try.func10, Try.ntmps10
    go_wp2_with fail
    refine (KM.out _).mono ?_
    rintro e w1 ⟨rfl, hb1⟩
    go_wp2_with fail
    refine (HRF.out _).mono ?_
    rintro e w2 ⟨rfl, hb2⟩
    go_wp2_with fail
    refine (awake_c _).mono ?_
    rintro e w4 ⟨rfl, hb4⟩
    go_wp2_with fail
    go_ret
    exact ⟨rfl, below_chain hb1 (below_chain hb2 hb4)⟩
end Go.Proofs.Ytjcicbnjoffbhaa
