/- The document's root, bit by bit. -/
import Derived.Test.YtjcicbnjoffbhaaN65
import Derived.Test.YtjcicbnjoffbhaaN48
import Derived.Test.YtjcicbnjoffbhaaN38
set_option linter.unusedSimpArgs false
set_option linter.unusedVariables false
namespace Go.Proofs.Ytjcicbnjoffbhaa
open Go Go.RowKit Nt

theorem lt_more {z p B n : Nat} (hB : 2 ≤ B) (hz : z < B ^ n) (hp : p ≤ B ^ n) : z + p < B ^ (n + 1) := by
  rw [Nat.pow_succ]
  have := Nat.mul_le_mul_left (B ^ n) hB
  omega
theorem lt_square {m B k : Nat} (h : m < B ^ k) : m * m < B ^ (k + k) := by
  rw [Nat.pow_add]
  exact Nat.mul_lt_mul'' h h
/-- The bounds of a round. -/
theorem root_bounds {x z i : Nat} (hx : nd 256 x ≤ 200) (hi : i ≤ 800) (hz : z * z ≤ x) : nd 256 (z + 2 ^ i) ≤ 201 ∧ fits ((z + 2 ^ i) * (z + 2 ^ i)) ∧ nd 256 z ≤ 200 ∧ nd 256 (2 ^ i) ≤ 201 := by
  obtain ⟨n, hn⟩ : ∃ n, n = 200 := ⟨_, rfl⟩
  have hzx : z ≤ x := by
    rcases Nat.eq_zero_or_pos z with c | c
    · omega
    · exact Nat.le_trans (Nat.le_mul_of_pos_right z c) hz
  have h1 : x < 256 ^ n := (lt_pow_iff (by omega) _ _).2 (by omega)
  have h2 : 2 ^ i ≤ 256 ^ n := by
    have e : (256 : Nat) ^ n = 2 ^ (8 * n) := by rw [Nat.pow_mul]
    rw [e]
    exact Nat.pow_le_pow_right (by omega) (by omega)
  have h3 := lt_more (B := 256) (by omega) (Nat.lt_of_le_of_lt hzx h1) h2
  have h4 := lt_square h3
  have h5 : 2 ^ i < 256 ^ (n + 1) := by omega
  have e1 := nd_le (b := 256) (by omega) h3
  have e2 := nd_le (b := 256) (by omega) (Nat.lt_of_le_of_lt hzx h1)
  have e3 := nd_le (b := 256) (by omega) h5
  exact ⟨by omega, fits_of_lt _ h4 (by omega), by omega, by omega⟩
theorem root_two {x L : Nat} (hL : nd 2 x = L) : x < (0 + 2 ^ (L / 2 + 1)) * (0 + 2 ^ (L / 2 + 1)) := by
  rw [Nat.zero_add, ← Nat.pow_add]
  have h1 : x < 2 ^ L := by rw [← hL]; exact lt_nd (by omega)
  exact Nat.lt_of_lt_of_le h1 (Nat.pow_le_pow_right (by omega) (by omega))
theorem root_bit {z i : Nat} : z + 2 ^ (i + 1) = (z + 2 ^ i) + 2 ^ i := by rw [Nat.pow_succ]; omega
set_option maxRecDepth 100000 in
set_option maxHeartbeats 1000000 in
theorem rRoot_c (x : Nat) (w : World) (hx : nd 256 x ≤ 200) :
    Calls Try.prog 52 #[.string (natS x)] w (fun e w' => ∃ r, IsRoot x r ∧ e = .returned (.tuple #[.string (natS r), .string (natS (x - r * r))]) ∧ Below w.heap.size w w') := by
  have hf : fits x := by unfold fits; omega
  obtain ⟨L, hL⟩ : ∃ L, nd 2 x = L := ⟨_, rfl⟩
  have hlen := fun w => rLen_c x w hf
  rw [hL] at hlen
  have HLEN := Lib.hid hlen
  have hL16 : L ≤ 1600 := by
    rw [← hL]
    exact (bits_le x 200).2 hx
  have HS := Lib.hid (root_two hL)
  obtain ⟨k, hk⟩ : ∃ k, k = L / 2 := ⟨_, rfl⟩
  rw [← hk] at HS
  have hkI : (L : Int).tdiv 2 = (k : Int) := by rw [Int.tdiv_eq_ediv_of_nonneg (by omega)]; omega
  have hk8 : k ≤ 800 := by omega
  have HX := Lib.hid hx
  have HF := Lib.hid hf
  have hz0 : (⟨#[]⟩ : ByteArray) = natS 0 := natS_zero.symm
  clear hlen hL hk hx hf
  go_enter Try.func52, Try.ntmps52
  go_wp2_with fail
  refine (HLEN.out _).mono ?_
  rintro e w1 ⟨rfl, rfl⟩
  go_wp2_with fail
  clear HLEN
  go_loopw [4, 5] (fun r ii wr => ∃ (z j : Nat) (v : Int), r = .string (natS z) ∧ ii = .int .i64 v ∧ v + 1 = (j : Int) ∧ j ≤ 801 ∧ Hid (z * z ≤ x) ∧ Hid (x < (z + 2 ^ j) * (z + 2 ^ j)) ∧ Below w.heap.size w wr) (fun _ ii _ => (intOf ii + 1).toNat)
  case atStart => exact ⟨0, k + 1, k, by rw [natS_zero], rfl, by omega, by omega, Lib.hid (by omega), HS, Below.refl _ _⟩
  case round =>
    obtain ⟨z, j, v, rfl, rfl, hv, hj, hz, hxz, hbw⟩ := hrel
    rcases Nat.eq_zero_or_pos j with hj0 | hj0
    · subst hj0
      obtain rfl : v = -1 := by omega
      have hR : IsRoot x z := ⟨hz.out, by have := hxz.out; rw [Nat.pow_zero] at this; exact this⟩
      have HR := Lib.hid hR
      obtain ⟨-, -, hzb, -⟩ := root_bounds HX.out (show 0 ≤ 800 by omega) hz.out
      have KT := Lib.hid (fun w => rTimes_c z z w (by omega) (by omega))
      have KS := Lib.hid (fun w => rSub_ge x (z * z) w HF.out (fits_le HF.out hz.out) hz.out)
      clear hR hzb hv hj hz hxz
      go_wp2_with fail
      refine (KT.out _).mono ?_
      rintro e w2 ⟨rfl, hb2⟩
      go_wp2_with fail
      refine (KS.out _).mono ?_
      rintro e w3 ⟨rfl, hb3⟩
      go_wp2
      go_ret2
      exact ⟨z, HR.out, rfl, below_chain hbw (below_chain hb2 hb3)⟩
    · obtain ⟨i, rfl⟩ : ∃ i, j = i + 1 := ⟨j - 1, by omega⟩
      obtain rfl : v = (i : Int) := by omega
      have hi8 : i ≤ 800 := by omega
      obtain ⟨b1, b2, b3, b4⟩ := root_bounds HX.out hi8 hz.out
      obtain ⟨m, hm⟩ : ∃ m, m = z + 2 ^ i := ⟨_, rfl⟩
      have K2 := Lib.hid (fun w => rTwo_c i w (by omega))
      have KP := Lib.hid (fun w => rPlus_c z (2 ^ i) w (by omega) (by omega))
      have hxm : x < (m + 2 ^ i) * (m + 2 ^ i) := by have := hxz.out; rw [root_bit, ← hm] at this; exact this
      rw [← hm] at b1 b2 KP
      have KT := Lib.hid (fun w => rTimes_c m m w (by omega) (by omega))
      have hc := fun w => rCmp_c (m * m) x w b2 HF.out
      have HXM := Lib.hid hxm
      have HM := Lib.hid hm
      clear b1 b2 b3 b4 hm hxm hv hj0
      by_cases hle : m * m ≤ x
      · have hge : cmpN (m * m) x = -1 ∨ cmpN (m * m) x = 0 := by
          rcases Nat.lt_or_ge (m * m) x with h | h
          · exact Or.inl (cmpN_lt h)
          · exact Or.inr (by rw [show m * m = x by omega]; exact cmpN_eq _)
        have HLE := Lib.hid hle
        clear hle
        rcases hge with hge | hge
        all_goals
          rw [hge] at hc
          have KC := Lib.hid hc
          clear hc hge
          go_wp2_with fail
          refine (K2.out _).mono ?_
          rintro e w2 ⟨rfl, hb2⟩
          go_wp2_with fail
          refine (KP.out _).mono ?_
          rintro e w3 ⟨rfl, hb3⟩
          go_wp2_with fail
          refine (KT.out _).mono ?_
          rintro e w4 ⟨rfl, hb4⟩
          go_wp2_with fail
          refine (KC.out _).mono ?_
          rintro e w5 ⟨rfl, nn, rfl⟩
          have hbw5 : Below w.heap.size w (w4.drewN nn) := below_drewN (below_chain hbw (below_chain hb2 (below_chain hb3 hb4))) nn
          clear hbw hb2 hb3 hb4
          generalize w4.drewN nn = w5 at *
          go_wp2
          go_roundw
          case rel => exact ⟨m, i, _, rfl, rfl, by omega, by omega, HLE, HXM, hbw5⟩
          case measure => simp [intOf]
      · have hcg := cmpN_gt (show x < m * m by omega)
        rw [hcg] at hc
        have KC := Lib.hid hc
        have HLE := Lib.hid hle
        clear hc hcg hle
        go_wp2_with fail
        refine (K2.out _).mono ?_
        rintro e w2 ⟨rfl, hb2⟩
        go_wp2_with fail
        refine (KP.out _).mono ?_
        rintro e w3 ⟨rfl, hb3⟩
        go_wp2_with fail
        refine (KT.out _).mono ?_
        rintro e w4 ⟨rfl, hb4⟩
        go_wp2_with fail
        refine (KC.out _).mono ?_
        rintro e w5 ⟨rfl, nn, rfl⟩
        have hbw5 : Below w.heap.size w (w4.drewN nn) := below_drewN (below_chain hbw (below_chain hb2 (below_chain hb3 hb4))) nn
        clear hbw hb2 hb3 hb4
        generalize w4.drewN nn = w5 at *
        go_wp2
        go_roundw
        case rel => exact ⟨z, i, _, rfl, rfl, by omega, by omega, hz, Lib.hid (by have := HLE.out; have h := HM.out; rw [← h]; omega), hbw5⟩
        case measure => simp [intOf]
end Go.Proofs.Ytjcicbnjoffbhaa
