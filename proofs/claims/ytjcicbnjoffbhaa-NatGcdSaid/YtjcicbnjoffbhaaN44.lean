/- Contracts of the document: digits, at, plus, ended, Add. -/
import Derived.Test.YtjcicbnjoffbhaaN43
import Derived.Test.YtjcicbnjoffbhaaN41of
set_option linter.unusedSimpArgs false
set_option linter.unusedVariables false
namespace Go.Proofs.Ytjcicbnjoffbhaa
open Go Go.RowKit Nt

/-- A row of digits that the call made. -/
def DigPost (l : List Nat) (w : World) (e : Ending) (w' : World) : Prop := ∃ v, e = .returned v ∧ Own w' w.heap.size 3 .i64 v l ∧ Below w.heap.size w w'
set_option maxRecDepth 100000 in
set_option maxHeartbeats 1000000 in
theorem rDigits_c (n : Nat) (w : World) (hn : nd 256 n ≤ 1000000000) :
    Calls Try.prog 73 #[.string (natS n)] w (DigPost (dl 256 n (nd 256 n)) w) := by
  obtain ⟨i0, hi0, hz0, hj1, hj2⟩ := info_parts (P := Try.prog) (e := 3) (z := .int .i64 0) (size := 1) (bytes := 8) (by kernel_rfl)
  have hsz := natS_size n
  obtain ⟨N, hN⟩ : ∃ N, N = nd 256 n := ⟨_, rfl⟩
  have hg := fun k (h : k < (natS n).size) => natS_get n k h
  rw [← hN] at hsz hn hg ⊢
  have HG := Lib.hid hg
  have HN := Lib.hid hN
  clear hN hg
  go_enter Try.func73, Try.ntmps73
  go_wp2
  go_loopw [3, 4] (fun v i wr => ∃ (k : Nat) (z : Int), k ≤ N ∧ i = .int .i64 z ∧ Hid (z = (N : Int) - 1 - (k : Int)) ∧ Hid (Own wr w.heap.size 3 .i64 v (dl 256 n k)) ∧ Below w.heap.size w wr) (fun _ i _ => (intOf i + 1).toNat)
  case atStart => exact ⟨0, _, Nat.zero_le _, rfl, Lib.hid (by first | rfl | omega | go_num), Lib.hid (Own.nil _ _ _ _), Below.refl _ _⟩
  case round =>
    obtain ⟨k, z, hk, rfl, hz, hown, hb⟩ := hrel
    by_cases h0 : k = N
    · subst h0
      obtain rfl : z = -1 := by have := hz.out; omega
      go_wp2
      go_ret
      exact ⟨_, rfl, hown.out, hb⟩
    · obtain ⟨m, hm⟩ : ∃ m, N = k + 1 + m := ⟨N - k - 1, by omega⟩
      obtain rfl : z = (m : Int) := by have := hz.out; omega
      have hms : m < (natS n).size := by omega
      have e := HG.out m hms
      rw [show N - 1 - m = k by omega] at e
      have hlt := (natS n)[m].toNat_lt
      have hw : wrap64 ((m : Int) - 1) = (m : Int) - 1 := IntWalk.wrap64_in _ (by omega)
      have hlen : Hid ((dl 256 n k).length + 1 ≤ 17592186044416) := Lib.hid (by rw [dl_length]; omega)
      have hm0 : (0 : Int) ≤ (m : Int) := by omega
      have HM := Lib.hid hm
      have HE := Lib.hid e
      have hwc : wrap64 (((natS n)[m].toNat : Nat) : Int) = (((natS n)[m].toNat : Nat) : Int) := IntWalk.wrap64_in _ (by omega)
      clear e hm h0
      go_wp2_with (at_builtin; go_loud (refine wpList_app1 wr rfl (.tmp 12) (.tmp 17) _ rfl w.heap.size 3 3 i0 .i64 8 Try.underlying80 hi0 hz0 hj1 hj2 (by omega) _ (dl 256 n k) (natS n)[m].toNat rfl rfl hown.out hlen.out hb.size ?_); intro v5 w5 hown5 hb5 hfr5 hnw5)
      rw [HE.out, ← dl_succ] at hown5
      have HO5 := Lib.hid hown5
      clear hown5 hfr5 hnw5
      go_roundw
      case rel => exact ⟨k + 1, _, by have := HM.out; omega, rfl, Lib.hid (by have := HM.out; omega), HO5, hb.trans hb5⟩
      case measure => simp [intOf]; try omega

set_option maxRecDepth 100000 in
theorem rAt_c (n L i B : Nat) (A : Option Addr) (c : Nat) (w : World) (hL : nd 256 n ≤ L) (hL2 : L ≤ 4000000000) (hi : i ≤ 4000000000) (h : Own w B 3 .i64 (.slice A L c) (dl 256 n L)) :
    Calls Try.prog 74 #[.slice A L c, .int .i64 (i : Nat)] w fun e w' => e = .returned (.int .i64 (dgt 256 n i : Nat)) ∧ w = w' := by
  by_cases hlt : i < L
  · obtain ⟨g, cap, e, _, hg, hc, hf⟩ := h.cell (j := i) (by rw [dl_length]; exact hlt)
    injection e with e1 e2 e3
    subst e1
    rw [dl_get] at hc
    generalize dgt 256 n i = d at *
    clear h e2 e3 hf
    go_enter Try.func74, Try.ntmps74
    go_wp2
    go_ret
    exact ⟨rfl, rfl⟩
  · rw [dgt_big (b := 256) (by omega) (show nd 256 n ≤ i by omega)]
    clear h hL
    go_enter Try.func74, Try.ntmps74
    go_wp2
    go_ret
    exact ⟨rfl, rfl⟩
set_option maxRecDepth 100000 in
theorem rEnded_c (n : Nat) (w : World) (hn : nd 256 n ≤ 1000000000) :
    Calls Try.prog 71 #[.string (natS n)] w fun e w' => e = .returned (.tuple #[.string (resS n), .int .i64 (resE n)]) ∧ w = w' := by
  have hsz := natS_size n
  by_cases h : fits n
  · have HE := Lib.hid (resE_ok h)
    have HS := Lib.hid (resS_ok h)
    have h2 : ¬ 16384 < nd 256 n := by unfold fits at h; omega
    have h3 : ¬ (16384 : Int) < (nd 256 n : Int) := by omega
    clear h
    go_enter Try.func71, Try.ntmps71
    go_wp2
    go_ret2
    exact ⟨by rw [HE.out, HS.out]; rfl, rfl⟩
  · have HE := Lib.hid (resE_no h)
    have HS := Lib.hid (resS_no h)
    have h2 : 16384 < nd 256 n := by unfold fits at h; omega
    have h3 : (16384 : Int) < (nd 256 n : Int) := by omega
    clear h
    go_enter Try.func71, Try.ntmps71
    go_wp2
    go_ret2
    exact ⟨by rw [HE.out, HS.out]; rfl, rfl⟩
theorem nd_add {x y m : Nat} (hx : nd 256 x ≤ m) (hy : nd 256 y ≤ m) : nd 256 (x + y) ≤ m + 1 := by
  refine nd_le (by omega) ?_
  have h1 := (lt_pow_iff (b := 256) (by omega) m x).2 hx
  have h2 := (lt_pow_iff (b := 256) (by omega) m y).2 hy
  rw [Nat.pow_succ]; omega
end Go.Proofs.Ytjcicbnjoffbhaa
