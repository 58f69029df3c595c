/- Layer 3 (dyad): the document's digits and bits; its Top. -/
import Derived.Test.YtjkonfopajihdaaDoorD3
set_option linter.unusedSimpArgs false
set_option linter.unusedVariables false
namespace Go.Proofs.YtjkonfopajihdaaDoor
open Go Go.RowKit Nt

theorem dlget3 (b n L i : Nat) (h : i < (dl b n L).length) : (dl b n L)[i] = dgt b n i := by
  have := dl_get? b n L i (by rw [dl_length] at h; exact h)
  rw [List.getElem?_eq_getElem h] at this
  exact Option.some.inj this
/-- A row of digits that the call made. -/
def BigPost (l : List Nat) (w : World) (e : Ending) (w' : World) : Prop := ∃ v, e = .returned v ∧ Own w' w.heap.size 3 .i64 v l ∧ Below w.heap.size w w'
set_option maxRecDepth 100000 in
set_option maxHeartbeats 1000000 in
theorem rOf3_c (n : Nat) (w : World) (hn : nd 256 n ≤ 1000000000) :
    Calls Tryd.prog 61 #[.string (natS n)] w (BigPost (dl 256 n (nd 256 n)) w) := by
  obtain ⟨i0, hi0, hz0, hj1, hj2⟩ := info_parts (P := Tryd.prog) (e := 3) (z := .int .i64 0) (size := 1) (bytes := 8) (by kernel_rfl)
  have hsz := natS_size n
  obtain ⟨N, hN⟩ : ∃ N, N = nd 256 n := ⟨_, rfl⟩
  have hg := fun k (h : k < (natS n).size) => natS_get n k h
  rw [← hN] at hsz hn hg ⊢
  have HG := Lib.hid hg
  have HN := Lib.hid hN
  clear hN hg
  go_enter Tryd.func61, Tryd.ntmps61
  go_wp2
  go_loopw [3, 4] (fun v i wr => ∃ (k : Nat) (z : Int), k ≤ N ∧ i = .int .i64 z ∧ Hid (z = (N : Int) - 1 - (k : Int)) ∧ Hid (Own wr w.heap.size 3 .i64 v (dl 256 n k)) ∧ Below w.heap.size w wr) (fun _ i _ => (intOf i + 1).toNat)
  case atStart => exact ⟨0, _, Nat.zero_le _, rfl, Lib.hid (by first | rfl | omega | go_num), Lib.hid (Own.nil _ _ _ _), Below.refl _ _⟩
  case round =>
    obtain ⟨k, z, hk, rfl, hz, hown, hb⟩ := hrel
    by_cases h0 : k = N
    · subst h0
      obtain rfl : z = -1 := by have := hz.out; omega
      go_wp2
      go_ret
      exact ⟨_, rfl, hown.out, hb⟩
    · obtain ⟨m, hm⟩ : ∃ m, N = k + 1 + m := ⟨N - k - 1, by omega⟩
      obtain rfl : z = (m : Int) := by have := hz.out; omega
      have hms : m < (natS n).size := by omega
      have e := HG.out m hms
      rw [show N - 1 - m = k by omega] at e
      have hlt := (natS n)[m].toNat_lt
      have hw : wrap64 ((m : Int) - 1) = (m : Int) - 1 := IntWalk.wrap64_in _ (by omega)
      have hlen : Hid ((dl 256 n k).length + 1 ≤ 17592186044416) := Lib.hid (by rw [dl_length]; omega)
      have hm0 : (0 : Int) ≤ (m : Int) := by omega
      have HM := Lib.hid hm
      have HE := Lib.hid e
      have hwc : wrap64 (((natS n)[m].toNat : Nat) : Int) = (((natS n)[m].toNat : Nat) : Int) := IntWalk.wrap64_in _ (by omega)
      clear e hm h0
      go_wp2_with (at_builtin; go_loud (refine wpList_app1 wr rfl (.tmp 12) (.tmp 17) _ rfl w.heap.size 3 3 i0 .i64 8 Tryd.underlying78 hi0 hz0 hj1 hj2 (by omega) _ (dl 256 n k) (natS n)[m].toNat rfl rfl hown.out hlen.out hb.size ?_); intro v5 w5 hown5 hb5 hfr5 hnw5)
      rw [HE.out, ← dl_succ] at hown5
      have HO5 := Lib.hid hown5
      clear hown5 hfr5 hnw5
      go_roundw
      case rel => exact ⟨k + 1, _, by have := HM.out; omega, rfl, Lib.hid (by have := HM.out; omega), HO5, hb.trans hb5⟩
      case measure => simp [intOf]; try omega
set_option maxRecDepth 100000 in
theorem rBits3_c (n B : Nat) (A : Option Addr) (c : Nat) (w : World) (hn : nd 256 n ≤ 1000000000) (h : Own w B 3 .i64 (.slice A (nd 256 n) c) (dl 256 n (nd 256 n))) :
    Calls Tryd.prog 60 #[.slice A (nd 256 n) c] w fun e w' => e = .returned (.int .i64 (nd 2 n : Nat)) ∧ w = w' := by
  by_cases h0 : n = 0
  · have HZ := Lib.hid (show nd 2 n = 0 by rw [h0, nd_zero])
    have e : nd 256 n = 0 := by rw [h0, nd_zero]
    rw [e] at h ⊢
    clear h h0 hn e
    go_enter Tryd.func60, Tryd.ntmps60
    go_wp2
    go_ret
    exact ⟨by rw [HZ.out]; rfl, rfl⟩
  · have hb8 := (bits_le n (nd 256 n)).2 (Nat.le_refl _)
    have ht := nd_top (b := 2) (c := 256) (e := 8) (by omega) (by omega) (by rfl) n h0
    obtain ⟨L, hL⟩ : ∃ L, nd 256 n = L + 1 := ⟨nd 256 n - 1, by
      rcases Nat.eq_zero_or_pos (nd 256 n) with h | h
      · exact absurd ((nd_eq_zero (by omega)).1 h) h0
      · omega⟩
    rw [hL, Nat.add_sub_cancel] at ht
    rw [hL] at h hn hb8 ⊢
    obtain ⟨g, cap, e, _, hg, hc, hf⟩ := h.cell (j := L) (by rw [dl_length]; omega)
    injection e with e1 e2 e3
    subst e1
    rw [dlget3] at hc
    have hlt := dgt_lt (b := 256) (by omega) n L
    generalize dgt 256 n L = d at *
    have HT := Lib.hid ht
    have HB := Lib.hid hb8
    clear h e2 e3 hf ht hb8 hL h0
    go_enter Tryd.func60, Tryd.ntmps60
    go_wp2
    go_loop [3, 4] (fun a b => ∃ x y : Nat, a = .int .i64 x ∧ b = .int .i64 y ∧ x ≤ 9000000000 ∧ y < 256 ∧ Hid (x + nd 2 y = nd 2 n)) (fun _ b => (intOf b).toNat)
    case atStart => exact ⟨8 * L, d, by go_num, rfl, by omega, hlt, Lib.hid (by rw [HT.out])⟩
    case round =>
      obtain ⟨x, y, rfl, rfl, hx, hy, hxy⟩ := hrel
      by_cases hy0 : y = 0
      · subst hy0
        have HZ := Lib.hid (show x = nd 2 n by have := hxy.out; rw [nd_zero] at this; exact this)
        go_wp2
        go_ret
        exact ⟨by rw [← HZ.out]; rfl, rfl⟩
      · have HS := Lib.hid (nd_step (b := 2) (by omega) hy0)
        have hy1 : (0 : Int) < (y : Int) := by omega
        have hxm : Hid (x + 1 ≤ 9000000000) := Lib.hid (by have h1 := hxy.out; have h2 := HS.out; have h3 := HB.out; omega)
        go_wp2
        go_round
        case rel => exact ⟨x + 1, y / 2, by go_num, by go_num, hxm.out, by omega, Lib.hid (by have h1 := hxy.out; have h2 := HS.out; omega)⟩
        case measure => simp [intOf]; omega
set_option maxRecDepth 100000 in
theorem rTop3_zero (w : World) : Calls Tryd.prog 20 #[.agg #[.bool false, .string ⟨#[]⟩, .int .i64 0]] w fun e w' => e = .returned (.tuple #[.int .i64 0, .bool false]) ∧ Below w.heap.size w w' := by
  go_enter Tryd.func20, Tryd.ntmps20
  go_wp2
  go_ret2
  exact ⟨rfl, (Below.refl _ _).alloc (Nat.le_refl _) _⟩
end Go.Proofs.YtjkonfopajihdaaDoor
