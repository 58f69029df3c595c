/- Texts put together: D3 D4 D8 N38 D9 DM D10 D11 D12 D13 N43 D14 D15 D16 N39 N41of D17 D18 D19 D23 Fft B1t B2t Mtt B3t Ev1. -/
import Derived.Test.YtkbjlijcnlkbgaaDoorQ1
import Derived.BigQuiet
import Derived.Deep.RegionLaw
import Ieee.Arith
import Derived.Test.YtkbjlijcnlkbgaaDoorProg
import Derived.WalkKit
import Derived.WalkLawsBesides
import Derived.WalkSpells
import Derived.Outline
import Derived.Lib.Hide
import Derived.Deep.Light
import Derived.Laws.BitsAllLaws
import Derived.Laws.FloatArith
import Derived.Deep.QuietTactic
import Derived.Lib.TrailingZeros
import Derived.Shelf.Strconv.Itoa0
import Derived.Laws.ShiftsVarLaws
import Derived.WalkSmall
import Derived.Deep.Quiet
import Derived.Deep.MidRow
import Derived.Below
import Derived.Scope
set_option linter.unusedSimpArgs false
set_option linter.unusedVariables false
namespace Go.Proofs.YtkbjlijcnlkbgaaDoor
open Go Go.RowKit Nt

set_option maxRecDepth 100000 in
theorem rMay3_zero (w : World) : Calls Tryd.prog 5 #[.agg #[.bool false, .string ⟨#[]⟩, .int .i64 0]] w fun e w' => e = .returned (.bool true) ∧ Below w.heap.size w w' := by
  go_enter Tryd.func5, Tryd.ntmps5
  go_wp2
  go_ret
  exact ⟨rfl, (Below.refl _ _).alloc (Nat.le_refl _) _⟩
theorem nat_first {n : Nat} (hf : fits n) (h : 0 < (natS n).size) : (natS n)[0].toNat ≠ 0 := ((may_natS n).2 hf).2 h
set_option maxRecDepth 100000 in
theorem rMay3_num (g : Bool) (n : Nat) (x : Int) (w : World) (hf : fits n) (ho : n % 2 = 1) (h1 : -1048576 ≤ x) (h2 : x ≤ 1048576) :
    Calls Tryd.prog 5 #[.agg #[.bool g, .string (natS n), .int .i64 x]] w fun e w' => e = .returned (.bool true) ∧ Below w.heap.size w w' := by
  have hE := natS_full (odd_ne ho)
  have hE2 := natS_full2 (odd_ne ho)
  have hsz := natS_size n
  have hL : nd 256 n ≤ 16384 := hf
  have hp := odd_size ho
  have hl : ((natS n)[nd 256 n - 1]'(by omega)).toNat % 2 = 1 := by
    have := last_odd n hp
    simp only [natS_size] at this
    rw [this, ho]
  have hl2 : (((natS n)[nd 256 n - 1]'(by omega)).toNat : Int) % 2 = 1 := by omega
  have hf0 := nat_first hf hp
  have hf1 : ¬ (((natS n)[0]'hp).toNat : Int) = 0 := by omega
  have hf2 : ((((natS n)[0]'hp).toNat : Int) != 0) = true := by rw [bne_iff_ne]; omega
  have HO := Lib.hid ho
  clear ho
  go_enter Tryd.func5, Tryd.ntmps5
  go_wp2
  go_ret
  exact ⟨rfl, (Below.refl _ _).alloc (Nat.le_refl _) _⟩
set_option maxRecDepth 100000 in
theorem rMay3_bad (g : Bool) (s : ByteArray) (x : Int) (w : World) (hs : s.size ≤ 9223372036854775807) (h : ¬ DOk g s x) :
    Calls Tryd.prog 5 #[.agg #[.bool g, .string s, .int .i64 x]] w fun e w' => e = .returned (.bool false) ∧ Below w.heap.size w w' := by
  rcases dbad h with ⟨rfl, hz⟩ | ⟨hp, hz⟩
  · clear h hs
    have hz2 : g = true ∨ (g = false ∧ (x == 0) = false ∧ ¬ x = 0) := by
      rcases hz with rfl | hz
      · exact Or.inl rfl
      · cases g
        · exact Or.inr ⟨rfl, by simpa using hz, hz⟩
        · exact Or.inl rfl
    clear hz
    rcases hz2 with rfl | ⟨rfl, hx, hx2⟩
    all_goals
      go_enter Tryd.func5, Tryd.ntmps5
      go_wp2
      go_ret
      exact ⟨rfl, (Below.refl _ _).alloc (Nat.le_refl _) _⟩
  · have hE := dFull hp
    have hE2 := dFull2 hp
    clear h
    by_cases hbig : 16384 < s.size
    · have hb' : ¬ (s.size : Int) ≤ 16384 := by omega
      clear hz
      go_enter Tryd.func5, Tryd.ntmps5
      go_wp2
      go_ret
      exact ⟨rfl, (Below.refl _ _).alloc (Nat.le_refl _) _⟩
    · have hb' : (s.size : Int) ≤ 16384 := by omega
      have hb'' : s.size ≤ 16384 := by omega
      by_cases h0 : (s[0]'hp).toNat = 0
      · have h0' : (((s[0]'hp).toNat : Int) != 0) = false := by rw [h0]; rfl
        have H0 := Lib.hid h0
        clear hz h0 hbig
        go_enter Tryd.func5, Tryd.ntmps5
        go_wp2
        go_ret
        exact ⟨rfl, (Below.refl _ _).alloc (Nat.le_refl _) _⟩
      · have h0' : (((s[0]'hp).toNat : Int) != 0) = true := by rw [bne_iff_ne]; omega
        have hm : May s := ⟨hb'', fun _ => h0⟩
        rcases hz with hz | ⟨hz, hm' | ⟨_, hx⟩⟩
        · have hl2 : ((s[s.size - 1]'(by omega)).toNat : Int) % 2 = 0 := by omega
          have H0 := Lib.hid h0
          clear hm h0 hz
          go_enter Tryd.func5, Tryd.ntmps5
          go_wp2
          go_ret
          exact ⟨rfl, (Below.refl _ _).alloc (Nat.le_refl _) _⟩
        · exact absurd hm hm'
        · have hl2 : ((s[s.size - 1]'(by omega)).toNat : Int) % 2 = 1 := by omega
          have H0 := Lib.hid h0
          clear hm h0 hz
          rcases hx with hx | hx
          · have hx' : ¬ -1048576 ≤ x := by omega
            go_enter Tryd.func5, Tryd.ntmps5
            go_wp2
            go_ret
            exact ⟨rfl, (Below.refl _ _).alloc (Nat.le_refl _) _⟩
          · have hx' : ¬ x ≤ 1048576 := by omega
            have hx'' : -1048576 ≤ x := by omega
            go_enter Tryd.func5, Tryd.ntmps5
            go_wp2
            go_ret
            exact ⟨congrArg (fun b => Ending.returned (.bool b)) (decide_eq_false (by omega)), (Below.refl _ _).alloc (Nat.le_refl _) _⟩
end Go.Proofs.YtkbjlijcnlkbgaaDoor
set_option linter.unusedSimpArgs false
set_option linter.unusedVariables false
namespace Go.Proofs.YtkbjlijcnlkbgaaDoor
open Go Go.RowKit Nt

theorem dlget3 (b n L i : Nat) (h : i < (dl b n L).length) : (dl b n L)[i] = dgt b n i := by
  have := dl_get? b n L i (by rw [dl_length] at h; exact h)
  rw [List.getElem?_eq_getElem h] at this
  exact Option.some.inj this
/-- A row of digits that the call made. -/
def BigPost (l : List Nat) (w : World) (e : Ending) (w' : World) : Prop := ∃ v, e = .returned v ∧ Own w' w.heap.size 3 .i64 v l ∧ Below w.heap.size w w'
set_option maxRecDepth 100000 in
set_option maxHeartbeats 1000000 in
theorem rOf3_c (n : Nat) (w : World) (hn : nd 256 n ≤ 1000000000) :
    Calls Tryd.prog 27 #[.string (natS n)] w (BigPost (dl 256 n (nd 256 n)) w) := by
  obtain ⟨i0, hi0, hz0, hj1, hj2⟩ := info_parts (P := Tryd.prog) (e := 3) (z := .int .i64 0) (size := 1) (bytes := 8) (by kernel_rfl)
  have hsz := natS_size n
  obtain ⟨N, hN⟩ : ∃ N, N = nd 256 n := ⟨_, rfl⟩
  have hg := fun k (h : k < (natS n).size) => natS_get n k h
  rw [← hN] at hsz hn hg ⊢
  have HG := Lib.hid hg
  have HN := Lib.hid hN
  clear hN hg
  go_enter Tryd.func27, Tryd.ntmps27
  go_wp2
  go_loopw [3, 4] (fun v i wr => ∃ (k : Nat) (z : Int), k ≤ N ∧ i = .int .i64 z ∧ Hid (z = (N : Int) - 1 - (k : Int)) ∧ Hid (Own wr w.heap.size 3 .i64 v (dl 256 n k)) ∧ Below w.heap.size w wr) (fun _ i _ => (intOf i + 1).toNat)
  case atStart => exact ⟨0, _, Nat.zero_le _, rfl, Lib.hid (by first | rfl | omega | go_num), Lib.hid (Own.nil _ _ _ _), Below.refl _ _⟩
  case round =>
    obtain ⟨k, z, hk, rfl, hz, hown, hb⟩ := hrel
    by_cases h0 : k = N
    · subst h0
      obtain rfl : z = -1 := by have := hz.out; omega
      go_wp2
      go_ret
      exact ⟨_, rfl, hown.out, hb⟩
    · obtain ⟨m, hm⟩ : ∃ m, N = k + 1 + m := ⟨N - k - 1, by omega⟩
      obtain rfl : z = (m : Int) := by have := hz.out; omega
      have hms : m < (natS n).size := by omega
      have e := HG.out m hms
      rw [show N - 1 - m = k by omega] at e
      have hlt := (natS n)[m].toNat_lt
      have hw : wrap64 ((m : Int) - 1) = (m : Int) - 1 := IntWalk.wrap64_in _ (by omega)
      have hlen : Hid ((dl 256 n k).length + 1 ≤ 17592186044416) := Lib.hid (by rw [dl_length]; omega)
      have hm0 : (0 : Int) ≤ (m : Int) := by omega
      have HM := Lib.hid hm
      have HE := Lib.hid e
      have hwc : wrap64 (((natS n)[m].toNat : Nat) : Int) = (((natS n)[m].toNat : Nat) : Int) := IntWalk.wrap64_in _ (by omega)
      clear e hm h0
      go_wp2_with (at_builtin; go_loud (refine wpList_app1 wr rfl (.tmp 12) (.tmp 17) _ rfl w.heap.size 3 3 i0 .i64 8 Tryd.underlying57 hi0 hz0 hj1 hj2 (by omega) _ (dl 256 n k) (natS n)[m].toNat rfl rfl hown.out hlen.out hb.size ?_); intro v5 w5 hown5 hb5 hfr5 hnw5)
      rw [HE.out, ← dl_succ] at hown5
      have HO5 := Lib.hid hown5
      clear hown5 hfr5 hnw5
      go_roundw
      case rel => exact ⟨k + 1, _, by have := HM.out; omega, rfl, Lib.hid (by have := HM.out; omega), HO5, hb.trans hb5⟩
      case measure => simp [intOf]; try omega
end Go.Proofs.YtkbjlijcnlkbgaaDoor
set_option linter.unusedSimpArgs false
set_option linter.unusedVariables false
namespace Go.Proofs.YtkbjlijcnlkbgaaDoor
open Go Go.RowKit Nt

theorem Own.take {w : World} {B : Nat} {T : TypeId} {k : IntKind} {A : Option Addr} {L c : Nat} {l : List Nat} (h : Own w B T k (.slice A L c) l) {m : Nat} (hm : m ≤ l.length) : Own w B T k (.slice A m c) (l.take m) := by
  have hl : (l.take m).length = m := by rw [List.length_take]; omega
  unfold Own
  rw [hl]
  refine ⟨by simp; omega, ?_⟩
  rcases h.2 with ⟨e, h0⟩ | ⟨g, cap, cur, e, hB, hh, hn, hmx, hs, ht⟩
  · injection e with e1 e2 e3
    refine Or.inl ⟨?_, by omega⟩
    rw [e1, e3, show m = 0 by omega]
  · injection e with e1 e2 e3
    refine Or.inr ⟨g, cap, cur, by rw [e1, e3], hB, hh, by omega, hmx, hs, ?_⟩
    rw [Nat.mul_one] at ht ⊢
    rw [List.map_take, ← ht, List.take_take, Nat.min_eq_left hm]
theorem dl_take (b n : Nat) {L m : Nat} (h : m ≤ L) : (dl b n L).take m = dl b n m := by
  apply List.ext_getElem
  · rw [List.length_take, dl_length, dl_length]; omega
  · intro i h1 h2
    rw [List.getElem_take, dlget3, dlget3]
/-- Without the noughts at the end. -/
theorem Own.cut {w : World} {B : Nat} {T : TypeId} {k : IntKind} {A : Option Addr} {L c n : Nat} (h : Own w B T k (.slice A L c) (dl 256 n L)) (hn : nd 256 n ≤ L) : Own w B T k (.slice A (nd 256 n) c) (dl 256 n (nd 256 n)) := by
  have := h.take (m := nd 256 n) (by rw [dl_length]; exact hn)
  rwa [dl_take 256 n hn] at this
set_option maxRecDepth 100000 in
set_option maxHeartbeats 400000 in
theorem rCut3_c (n L B : Nat) (A : Option Addr) (c : Nat) (w : World) (hn : nd 256 n ≤ L) (hL : L ≤ 1000000000) (h : Own w B 3 .i64 (.slice A L c) (dl 256 n L)) :
    Calls Tryd.prog 50 #[.slice A L c] w fun e w' => e = .returned (.slice A (nd 256 n) c) ∧ w = w' := by
  rcases h.form with ⟨e, h0⟩ | ⟨g, cap, cs, e, _, hg, hblk, hcap, hcm, hcell⟩
  · injection e with e1 e2 e3
    have hz : nd 256 n = 0 := by omega
    subst e1 e2 e3
    rw [hz]
    clear h h0 hn
    go_enter Tryd.func50, Tryd.ntmps50
    go_wp2
    go_loop [3] (fun i => i = .int .i64 0) (fun i => (intOf i).toNat)
    case atStart => rfl
    case round =>
      obtain rfl := hrel
      go_wp2
      go_ret
      exact ⟨rfl, rfl⟩
  · injection e with e1 e2 e3
    subst e1 e3
    rw [dl_length] at hcap
    have hc : Hid (∀ j, j < L → w.cell? ⟨g, j, none⟩ = some (.int .i64 (dgt 256 n j : Nat))) := Lib.hid fun j hj => by
      rw [hblk.cell, hcell j (by rw [dl_length]; exact hj), dlget3]
    clear h hcell hblk e2
    go_enter Tryd.func50, Tryd.ntmps50
    go_wp2
    go_loop [3] (fun i => ∃ k : Nat, i = .int .i64 k ∧ nd 256 n ≤ k ∧ k ≤ L) (fun i => (intOf i).toNat)
    case atStart => exact ⟨L, rfl, hn, Nat.le_refl _⟩
    case round =>
      obtain ⟨k, rfl, hk, hkL⟩ := hrel
      by_cases hk0 : k = 0
      · subst hk0
        have hz : nd 256 n = 0 := by omega
        have HZ := Lib.hid hz
        clear hk hz
        go_wp2
        go_ret
        exact ⟨by rw [HZ.out]; try rfl, rfl⟩
      · obtain ⟨m, rfl⟩ : ∃ m, k = m + 1 := ⟨k - 1, by omega⟩
        have hcm' := hc.out m (by omega)
        by_cases hd : dgt 256 n m = 0
        · rw [hd] at hcm'
          have hk2 : Hid (nd 256 n ≤ m) := Lib.hid (by
            rcases Nat.lt_or_ge m (nd 256 n) with c | c
            · have e : nd 256 n = m + 1 := by omega
              have := dgt_top (b := 256) (n := n) (by omega) (fun c => by rw [c, nd_zero] at e; omega)
              rw [e, Nat.add_sub_cancel] at this
              exact absurd hd this
            · exact c)
          clear hk hd
          go_wp2
          go_round
          case rel => exact ⟨m, by go_num, hk2.out, by omega⟩
          case measure => simp [intOf]; try omega
        · have hd1 : ((dgt 256 n m : Nat) : Int) ≠ 0 := by omega
          have hd2 : (((dgt 256 n m : Nat) : Int) == 0) = false := by rw [beq_eq_false_iff_ne]; exact hd1
          have HE := Lib.hid (show nd 256 n = m + 1 by
            rcases Nat.lt_or_ge m (nd 256 n) with c | c
            · omega
            · exact absurd (dgt_big (b := 256) (by omega) c) hd)
          generalize dgt 256 n m = d at *
          clear hk
          go_wp2
          go_ret
          exact ⟨by rw [HE.out]; try rfl, rfl⟩
set_option maxRecDepth 100000 in
theorem rAt3_c (n L i B : Nat) (A : Option Addr) (c : Nat) (w : World) (hL : nd 256 n ≤ L) (hL2 : L ≤ 4000000000) (hi : i ≤ 4000000000) (h : Own w B 3 .i64 (.slice A L c) (dl 256 n L)) :
    Calls Tryd.prog 53 #[.slice A L c, .int .i64 (i : Nat)] w fun e w' => e = .returned (.int .i64 (dgt 256 n i : Nat)) ∧ w = w' := by
  by_cases hlt : i < L
  · obtain ⟨g, cap, e, _, hg, hc, hf⟩ := h.cell (j := i) (by rw [dl_length]; exact hlt)
    injection e with e1 e2 e3
    subst e1
    rw [dlget3] at hc
    generalize dgt 256 n i = d at *
    clear h e2 e3 hf
    go_enter Tryd.func53, Tryd.ntmps53
    go_wp2
    go_ret
    exact ⟨rfl, rfl⟩
  · rw [dgt_big (b := 256) (by omega) (show nd 256 n ≤ i by omega)]
    clear h hL
    go_enter Tryd.func53, Tryd.ntmps53
    go_wp2
    go_ret
    exact ⟨rfl, rfl⟩
end Go.Proofs.YtkbjlijcnlkbgaaDoor
set_option linter.unusedSimpArgs false
set_option linter.unusedVariables false
namespace Go.Proofs.YtkbjlijcnlkbgaaDoor
open Go Go.RowKit Nt

theorem tz8_spec : ∀ n : Fin 256, n.val ≠ 0 → Lib.trailingZeros8 n.val < 8 ∧ n.val / 2 ^ Lib.trailingZeros8 n.val % 2 = 1 ∧ ∀ j : Fin 8, j.val < Lib.trailingZeros8 n.val → n.val / 2 ^ j.val % 2 = 0 := by decide +kernel
/-- The place of the lowest bit that is one. -/
def IsLow (n l : Nat) : Prop := (n = 0 → l = 0) ∧ (n ≠ 0 → dgt 2 n l = 1 ∧ ∀ j, j < l → dgt 2 n j = 0)
theorem low_lt {n l : Nat} (h0 : n ≠ 0) (h : IsLow n l) : l < nd 2 n := by
  rcases Nat.lt_or_ge l (nd 2 n) with h1 | h1
  · exact h1
  · have := dgt_big (b := 2) (by omega) h1; have := (h.2 h0).1; omega
theorem low_unique {n k l : Nat} (hk : IsLow n k) (hl : IsLow n l) : k = l := by
  by_cases h0 : n = 0
  · rw [hk.1 h0, hl.1 h0]
  · obtain ⟨k1, k2⟩ := hk.2 h0
    obtain ⟨l1, l2⟩ := hl.2 h0
    rcases Nat.lt_trichotomy k l with h | h | h
    · have := l2 k h; omega
    · exact h
    · have := k2 l h; omega
theorem first_one (n : Nat) : ∀ m, (∃ l, l < m ∧ dgt 2 n l = 1 ∧ ∀ j, j < l → dgt 2 n j = 0) ∨ ∀ j, j < m → dgt 2 n j = 0 := by
  intro m
  induction m with
  | zero => exact Or.inr fun j h => by omega
  | succ m ih =>
    rcases ih with ⟨l, h1, h2, h3⟩ | h
    · exact Or.inl ⟨l, by omega, h2, h3⟩
    · have hl := dgt_lt (b := 2) (by omega) n m
      by_cases hm : dgt 2 n m = 0
      · refine Or.inr fun j hj => ?_
        by_cases c : j = m
        · rw [c]; exact hm
        · exact h j (by omega)
      · exact Or.inl ⟨m, by omega, by omega, h⟩
theorem low_ex (n : Nat) : ∃ l, IsLow n l := by
  by_cases h0 : n = 0
  · exact ⟨0, fun _ => rfl, fun c => absurd h0 c⟩
  · rcases first_one n (nd 2 n) with ⟨l, _, h2, h3⟩ | h
    · exact ⟨l, fun c => absurd c h0, fun _ => ⟨h2, h3⟩⟩
    · have h1 := dgt_top (b := 2) (by omega) h0
      have h2 : 0 < nd 2 n := by
        rcases Nat.eq_zero_or_pos (nd 2 n) with c | c
        · exact absurd ((nd_eq_zero (by omega)).1 c) h0
        · exact c
      exact absurd (h (nd 2 n - 1) (by omega)) h1
theorem low_byte {n q : Nat} (hz : ∀ j, j < q → dgt 256 n j = 0) (hb : dgt 256 n q ≠ 0) : IsLow n (8 * q + Lib.trailingZeros8 (dgt 256 n q)) := by
  have hlt := dgt_lt (b := 256) (by omega) n q
  obtain ⟨t1, t2, t3⟩ := tz8_spec ⟨dgt 256 n q, hlt⟩ hb
  simp only at t1 t2 t3
  have h0 : n ≠ 0 := fun c => hb (by rw [c, dgt_def, Nat.zero_div])
  refine ⟨fun c => absurd c h0, fun _ => ⟨?_, fun j hj => ?_⟩⟩
  · rw [← byte_bit n q _ t1]; exact t2
  · by_cases h : j / 8 < q
    · have e := byte_bit n (j / 8) (j % 8) (by omega)
      rw [show 8 * (j / 8) + j % 8 = j by omega, hz _ h, Nat.zero_div] at e
      exact e.symm
    · have hq : j / 8 = q := by omega
      have e := byte_bit n q (j % 8) (by omega)
      rw [show 8 * q + j % 8 = j by omega] at e
      rw [← e]
      exact t3 ⟨j % 8, by omega⟩ (by show j % 8 < _; omega)
set_option maxRecDepth 100000 in
theorem NLow_no (s : ByteArray) (w : World) (h : ¬ May s) :
    Calls Tryd.prog 43 #[.string s] w (IntPost 0 2 w) := by
  have hm := may1_no h
  go_enter Tryd.func43, Tryd.ntmps43
  go_wp2_with (go_at_call 32; refine (Check_c _ _).mono ?_; rintro e w1 ⟨rfl, hb⟩)
  go_ret2
  exact ⟨rfl, hb⟩
set_option maxRecDepth 100000 in
theorem NLow_c (n l : Nat) (w : World) (hf : fits n) (hl : IsLow n l) :
    Calls Tryd.prog 43 #[.string (natS n)] w (IntPost (l : Nat) 0 w) := by
  have hm := may1 hf
  have hsz := natS_size n
  have hL : nd 256 n ≤ 16384 := hf
  obtain ⟨N, hN⟩ : ∃ N, N = nd 256 n := ⟨_, rfl⟩
  have hg := fun k (h : k < (natS n).size) => natS_get n k h
  rw [← hN] at hsz hL hg
  have HG := Lib.hid hg
  have HN := Lib.hid hN
  have HL := Lib.hid hl
  clear hN hg hl hf
  go_enter Tryd.func43, Tryd.ntmps43
  go_wp2_with (go_at_call 32; refine (Check_c _ _).mono ?_; rintro e w1 ⟨rfl, hb⟩)
  go_loopw [5] (fun i wr => ∃ (k : Nat) (z : Int), k ≤ N ∧ i = .int .i64 z ∧ Hid (z = (k : Int) - 1) ∧ Hid (∀ j, j < N - k → dgt 256 n j = 0) ∧ Below w.heap.size w wr) (fun i _ => (intOf i + 1).toNat)
  case atStart => exact ⟨N, _, Nat.le_refl _, rfl, Lib.hid (by first | rfl | omega | go_num), Lib.hid (fun j h => by omega), hb⟩
  case round =>
    obtain ⟨k, z, hk, rfl, hz, hj, hbw⟩ := hrel
    by_cases h0 : k = 0
    · subst h0
      obtain rfl : z = -1 := by have := hz.out; omega
      have HZ := Lib.hid (show l = 0 by
        refine HL.out.1 ((nd_eq_zero (b := 256) (by omega)).1 ?_)
        rcases Nat.eq_zero_or_pos (nd 256 n) with c | c
        · exact c
        · have h1 := dgt_top (b := 256) (n := n) (by omega) (fun d => by rw [d, nd_zero] at c; omega)
          exact absurd (hj.out (nd 256 n - 1) (by have := HN.out; omega)) h1)
      go_wp2
      go_ret2
      exact ⟨by rw [HZ.out]; rfl, hbw⟩
    · obtain ⟨m, rfl⟩ : ∃ m, k = m + 1 := ⟨k - 1, by omega⟩
      obtain rfl : z = (m : Int) := by have := hz.out; omega
      have hms : m < (natS n).size := by omega
      have e := HG.out m hms
      have hlt := (natS n)[m].toNat_lt
      have hw : wrap64 ((m : Int) - 1) = (m : Int) - 1 := IntWalk.wrap64_in _ (by omega)
      by_cases h1 : (natS n)[m].toNat = 0
      · have h1' := nne_false h1
        have HJ := Lib.hid (show ∀ j, j < N - m → dgt 256 n j = 0 from fun j hj2 => by
          by_cases c : j = N - 1 - m
          · rw [c, ← e]; exact h1
          · exact hj.out j (by omega))
        clear h1 e
        go_wp2
        go_roundw
        case rel => exact ⟨m, _, by omega, rfl, Lib.hid rfl, HJ, hbw⟩
        case measure => simp [intOf]; try omega
      · have h1' := nne_true h1
        have hlo := low_byte (n := n) (q := N - 1 - m) (fun j h => hj.out j (by omega)) (by rw [← e]; exact h1)
        rw [← e] at hlo
        obtain ⟨t, ht⟩ : ∃ t, t = Lib.trailingZeros8 (natS n)[m].toNat := ⟨_, rfl⟩
        have ht8 : t ≤ 8 := by rw [ht]; exact Lib.trailingZeros8_le8 ⟨(natS n)[m].toNat, hlt⟩
        have ht2 : ∀ w, Calls Tryd.prog 57 #[.int .u8 ((natS n)[m].toNat : Nat)] w fun e w' => e = .returned (.int .i64 (t : Nat)) ∧ w = w' := fun w => by
          refine (Tryd.bits_TrailingZeros8 _ _ (by omega) (by omega)).mono ?_
          rintro e w' ⟨rfl, rfl⟩
          exact ⟨by rw [Int.toNat_natCast, ← ht], rfl⟩
        rw [← ht] at hlo
        have hfin := low_unique HL.out hlo
        obtain ⟨q, hq⟩ : ∃ q, q = N - 1 - m := ⟨_, rfl⟩
        rw [← hq] at hfin
        have hqI : (N : Int) - 1 - (m : Int) = (q : Int) := by omega
        have HF := Lib.hid hfin
        have K := Lib.hid ht2
        have hqN : q ≤ 16384 := by omega
        clear h1 e hlo ht ht2 hfin hq
        go_wp2_with (go_at_call 57; refine (K.out _).mono ?_; rintro e w' ⟨rfl, rfl⟩)
        go_ret2
        exact ⟨by rw [HF.out]; congr 1, hbw⟩
end Go.Proofs.YtkbjlijcnlkbgaaDoor
set_option linter.unusedSimpArgs false
set_option linter.unusedVariables false
namespace Go.Proofs.YtkbjlijcnlkbgaaDoor
open Go Go.RowKit Nt

theorem and_one_i64d (q : Nat) (hq : q < 256) : bits BinOp.and IntKind.i64 (q : Int) 1 = ((q % 2 : Nat) : Int) := by
  have h1 : (BitVec.ofInt 64 (q : Int)).toNat = q := by
    rw [BitVec.ofInt_natCast, BitVec.toNat_ofNat]; exact Nat.mod_eq_of_lt (by omega)
  have h2 : (BitVec.ofInt 64 (1 : Int)).toNat = 1 := by decide
  show IntKind.i64.wrap ((BitVec.ofInt 64 (q : Int) &&& BitVec.ofInt 64 (1 : Int)).toNat : Int) = _
  rw [BitVec.toNat_and, h1, h2, Nat.and_one_is_mod]
  exact IntWalk.i64_in _ (by omega)
set_option maxRecDepth 100000 in
set_option maxHeartbeats 400000 in
theorem rLow3_c (n l L B : Nat) (A : Option Addr) (c : Nat) (w : World) (h0 : n ≠ 0) (hl : IsLow n l) (hn : nd 256 n ≤ L) (hL : L ≤ 1000000000) (h : Own w B 3 .i64 (.slice A L c) (dl 256 n L)) :
    Calls Tryd.prog 51 #[.slice A L c] w fun e w' => e = .returned (.int .i64 (l : Nat)) ∧ w = w' := by
  have hlt := low_lt h0 hl
  have hb8 := (bits_le n (nd 256 n)).2 (Nat.le_refl _)
  obtain ⟨g, cap, e, _, hg, hx1, hx2⟩ := h.cell (j := 0) (by rw [dl_length]; omega)
  clear hx1 hx2
  injection e with e1 e2 e3
  subst e1
  have hc : Hid (∀ j, j < L → w.cell? ⟨g, j, none⟩ = some (.int .i64 (dgt 256 n j : Nat))) := Lib.hid fun j hj => by
    obtain ⟨g', cap', e', _, _, hc', _⟩ := h.cell (j := j) (by rw [dl_length]; exact hj)
    injection e' with e1' e2' e3'
    injection e1' with e1'
    injection e1' with e1'
    subst e1'
    rw [hc', dlget3]
  have HL := Lib.hid (hl.2 h0)
  have HB : l < 8 * L := by omega
  clear h e2 e3 hl hlt hb8 hn h0
  go_enter Tryd.func51, Tryd.ntmps51
  go_wp2
  go_loop [3] (fun i => ∃ k : Nat, k ≤ l ∧ i = .int .i64 k) (fun i => l - (intOf i).toNat)
  case atStart => exact ⟨0, Nat.zero_le _, rfl⟩
  case round =>
    obtain ⟨k, hk, rfl⟩ := hrel
    have hbb := byte_bit n (k / 8) (k % 8) (by omega)
    rw [show 8 * (k / 8) + k % 8 = k by omega] at hbb
    have hqL : k / 8 < L := by omega
    have hcq := hc.out (k / 8) hqL
    have hd8 := dgt_lt (b := 256) (by omega) n (k / 8)
    generalize dgt 256 n (k / 8) = d at *
    obtain ⟨v, hv⟩ : ∃ v, v = d / 2 ^ (k % 8) := ⟨_, rfl⟩
    have hv2 : v < 256 := by rw [hv]; exact Nat.lt_of_le_of_lt (Nat.div_le_self _ _) hd8
    have hvI : (d : Int) / 2 ^ (k % 8) = (v : Int) := by rw [hv, int_pow2, Int.natCast_ediv]
    have hand := and_one_i64d v hv2
    rw [hv, hbb] at hand
    rw [← hv] at hand
    obtain ⟨q, hq1⟩ : ∃ q, k / 8 = q := ⟨_, rfl⟩
    obtain ⟨r, hr1⟩ : ∃ r, k % 8 = r := ⟨_, rfl⟩
    rw [hq1] at hqL hcq
    rw [hr1] at hvI
    have hqI : (k : Int) / 8 = (q : Int) := by omega
    have hrI : (k : Int) % 8 = (r : Int) := by omega
    have hr8 : r < 8 := by omega
    clear hv hbb hq1 hr1
    by_cases hkl : k < l
    · rw [HL.out.2 k hkl] at hand
      have hz : bits BinOp.and IntKind.i64 (v : Int) 1 = 0 := hand
      clear hand
      go_wp2
      go_round
      case rel => exact ⟨k + 1, by omega, by go_num⟩
      case measure => simp [intOf]; try omega
    · obtain rfl : k = l := by omega
      rw [HL.out.1] at hand
      have hz : bits BinOp.and IntKind.i64 (v : Int) 1 = 1 := hand
      clear hand
      go_wp2
      go_ret
      exact ⟨rfl, rfl⟩
end Go.Proofs.YtkbjlijcnlkbgaaDoor
set_option linter.unusedSimpArgs false
set_option linter.unusedVariables false
namespace Go.Proofs.YtkbjlijcnlkbgaaDoor
open Go Go.RowKit Nt

def lowN (n : Nat) : Nat := if h : n = 0 ∨ n % 2 = 1 then 0 else lowN (n / 2) + 1
termination_by n
decreasing_by omega
theorem lowN_odd {n : Nat} (h : n % 2 = 1) : lowN n = 0 := by unfold lowN; rw [dif_pos (Or.inr h)]
theorem lowN_zero : lowN 0 = 0 := by unfold lowN; rw [dif_pos (Or.inl rfl)]
theorem lowN_even {n : Nat} (h0 : n ≠ 0) (h : n % 2 = 0) : lowN n = lowN (n / 2) + 1 := by
  have e : ¬ (n = 0 ∨ n % 2 = 1) := fun c => by rcases c with c | c; exact h0 c; omega
  rw [lowN.eq_1 n, dif_neg e]
theorem lowN_ex (n : Nat) (h0 : n ≠ 0) : ∃ o, o % 2 = 1 ∧ n = o * 2 ^ lowN n := by
  induction n using Nat.strongRecOn with
  | ind n ih =>
    by_cases h : n % 2 = 1
    · exact ⟨n, h, by rw [lowN_odd h, Nat.pow_zero, Nat.mul_one]⟩
    · obtain ⟨o, ho, e⟩ := ih (n / 2) (by omega) (by omega)
      refine ⟨o, ho, ?_⟩
      rw [lowN_even h0 (by omega), Nat.pow_succ, ← Nat.mul_assoc, ← e]; omega
def odN (n : Nat) : Nat := n / 2 ^ lowN n
theorem odN_spec {n : Nat} (h0 : n ≠ 0) : odN n % 2 = 1 ∧ n = odN n * 2 ^ lowN n := by
  obtain ⟨o, ho, e⟩ := lowN_ex n h0
  have e2 : odN n = o := by
    unfold odN
    generalize lowN n = k at *
    rw [e, Nat.mul_div_cancel _ (Nat.two_pow_pos _)]
  rw [e2]; exact ⟨ho, e⟩
theorem odN_pos {n : Nat} (h0 : n ≠ 0) : odN n ≠ 0 := odd_ne (odN_spec h0).1
theorem odd_pow {o l m k : Nat} (ho : o % 2 = 1) (hm : m % 2 = 1) (h : o * 2 ^ l = m * 2 ^ k) : l = k ∧ o = m := by
  induction l generalizing k with
  | zero =>
    cases k with
    | zero => exact ⟨rfl, by simpa using h⟩
    | succ k => rw [Nat.pow_zero, Nat.mul_one, Nat.pow_succ, ← Nat.mul_assoc] at h; omega
  | succ l ih =>
    cases k with
    | zero => rw [Nat.pow_zero, Nat.mul_one, Nat.pow_succ, ← Nat.mul_assoc] at h; omega
    | succ k =>
      rw [Nat.pow_succ, Nat.pow_succ, ← Nat.mul_assoc, ← Nat.mul_assoc] at h
      obtain ⟨e1, e2⟩ := ih (k := k) (by omega)
      exact ⟨by rw [e1], e2⟩
theorem od_unique {n o l : Nat} (ho : o % 2 = 1) (h : n = o * 2 ^ l) : lowN n = l ∧ odN n = o := by
  have h0 : n ≠ 0 := fun c => by
    rw [c] at h
    rcases Nat.mul_eq_zero.1 h.symm with c | c
    · exact odd_ne ho c
    · exact absurd c (Nat.pos_iff_ne_zero.1 (Nat.two_pow_pos l))
  obtain ⟨h1, h2⟩ := odN_spec h0
  exact odd_pow h1 ho (h2.symm.trans h)
theorem od_mul {n : Nat} (h0 : n ≠ 0) (k : Nat) : lowN (n * 2 ^ k) = lowN n + k ∧ odN (n * 2 ^ k) = odN n := by
  obtain ⟨h1, h2⟩ := odN_spec h0
  refine od_unique h1 ?_
  rw [Nat.pow_add, ← Nat.mul_assoc, ← h2]
theorem odN_odd {n : Nat} (h : n % 2 = 1) : odN n = n := (od_unique (l := 0) h (by rw [Nat.pow_zero, Nat.mul_one])).2
theorem odN_zero : odN 0 = 0 := by unfold odN; rw [Nat.zero_div]
theorem lowN_is (n : Nat) : IsLow n (lowN n) := by
  refine ⟨fun c => by rw [c, lowN_zero], fun h0 => ?_⟩
  obtain ⟨h1, h2⟩ := odN_spec h0
  refine ⟨?_, fun j hj => ?_⟩
  · rw [dgt_def]; exact h1
  · rw [dgt_def, h2, show lowN n = j + (lowN n - j) by omega, Nat.pow_add, Nat.mul_left_comm, Nat.mul_div_cancel_left _ (Nat.two_pow_pos j), show lowN n - j = (lowN n - j - 1) + 1 by omega, Nat.pow_succ, ← Nat.mul_assoc]
    omega
theorem odN_le (n : Nat) : odN n ≤ n := Nat.div_le_self _ _
theorem nd_odN {n : Nat} (h0 : n ≠ 0) : nd 2 n = nd 2 (odN n) + lowN n := by
  have h := nd_mul_pow (j := lowN n) (odN_pos h0)
  rwa [← (odN_spec h0).2] at h
/-- A Dyad. -/
structure Dy where
  g : Bool
  n : Nat
  x : Int
def Dy.v (d : Dy) : Value := .agg #[.bool d.g, .string (natS d.n), .int .i64 d.x]
def Dy.zero : Dy := ⟨false, 0, 0⟩
def Dy.Num (d : Dy) : Prop := fits d.n ∧ d.n % 2 = 1 ∧ -1048576 ≤ d.x ∧ d.x ≤ 1048576
def Dy.Ok (d : Dy) : Prop := d = Dy.zero ∨ d.Num
theorem Dy.zero_v : Dy.zero.v = .agg #[.bool false, .string ⟨#[]⟩, .int .i64 0] := by unfold Dy.v Dy.zero; rw [natS_zero]
theorem fits_zero : fits 0 := by unfold fits; rw [nd_zero]; omega
theorem DOk_dy {g : Bool} {s : ByteArray} {x : Int} (h : DOk g s x) : ∃ d : Dy, d.Ok ∧ g = d.g ∧ s = natS d.n ∧ x = d.x := by
  rcases h with ⟨rfl, rfl, rfl⟩ | ⟨n, hf, ho, rfl, h1, h2⟩
  · exact ⟨Dy.zero, Or.inl rfl, rfl, natS_zero.symm, rfl⟩
  · exact ⟨⟨g, n, x⟩, Or.inr ⟨hf, ho, h1, h2⟩, rfl, rfl, rfl⟩
/-- Whether a number times a power of two may be a Dyad. -/
def mkOk3 (n : Nat) (x : Int) : Prop := n = 0 ∨ (fits (odN n) ∧ -1048576 ≤ x + lowN n ∧ x + lowN n ≤ 1048576)
instance (n : Nat) (x : Int) : Decidable (mkOk3 n x) := by unfold mkOk3 fits; exact inferInstance
@[irreducible] def mkD (g : Bool) (n : Nat) (x : Int) : Dy := if n ≠ 0 ∧ mkOk3 n x then ⟨g, odN n, x + lowN n⟩ else Dy.zero
@[irreducible] def mkE (n : Nat) (x : Int) : Int := if mkOk3 n x then 0 else 4
theorem mkD_zero (g : Bool) (x : Int) : mkD g 0 x = Dy.zero := by unfold mkD; rw [if_neg (fun c => c.1 rfl)]
theorem mkE_zero (x : Int) : mkE 0 x = 0 := by unfold mkE; exact if_pos (Or.inl rfl)
theorem mkD_ok {g : Bool} {n : Nat} {x : Int} (h0 : n ≠ 0) (h : mkOk3 n x) : mkD g n x = ⟨g, odN n, x + lowN n⟩ := by unfold mkD; rw [if_pos ⟨h0, h⟩]
theorem mkE_ok {n : Nat} {x : Int} (h : mkOk3 n x) : mkE n x = 0 := by unfold mkE; rw [if_pos h]
theorem mkD_no {g : Bool} {n : Nat} {x : Int} (h : ¬ mkOk3 n x) : mkD g n x = Dy.zero := by unfold mkD; rw [if_neg (fun c => h c.2)]
theorem mkE_no {n : Nat} {x : Int} (h : ¬ mkOk3 n x) : mkE n x = 4 := by unfold mkE; rw [if_neg h]
theorem mkD_Ok (g : Bool) (n : Nat) (x : Int) : (mkD g n x).Ok := by
  by_cases h0 : n = 0
  · subst h0; rw [mkD_zero]; exact Or.inl rfl
  · by_cases h : mkOk3 n x
    · rw [mkD_ok h0 h]
      rcases h with h | ⟨h1, h2, h3⟩
      · exact absurd h h0
      · exact Or.inr ⟨h1, (odN_spec h0).1, h2, h3⟩
    · rw [mkD_no h]; exact Or.inl rfl
theorem mkOk3_shift {n : Nat} (k : Nat) {x : Int} : mkOk3 (n * 2 ^ k) (x - k) ↔ mkOk3 n x := by
  by_cases h0 : n = 0
  · subst h0; rw [Nat.zero_mul]; exact ⟨fun _ => Or.inl rfl, fun _ => Or.inl rfl⟩
  · have h1 : n * 2 ^ k ≠ 0 := fun c => by
      rcases Nat.mul_eq_zero.1 c with c | c
      · exact h0 c
      · exact absurd c (Nat.pos_iff_ne_zero.1 (Nat.two_pow_pos k))
    obtain ⟨e1, e2⟩ := od_mul h0 k
    unfold mkOk3
    rw [e1, e2]
    have e : x - (k : Int) + ((lowN n + k : Nat) : Int) = x + lowN n := by omega
    rw [e]
    exact ⟨fun h => h.elim (fun c => absurd c h1) Or.inr, fun h => h.elim (fun c => absurd c h0) Or.inr⟩
theorem mkD_shift (g : Bool) (n k : Nat) (x : Int) : mkD g (n * 2 ^ k) (x - k) = mkD g n x ∧ mkE (n * 2 ^ k) (x - k) = mkE n x := by
  by_cases h0 : n = 0
  · subst h0; rw [Nat.zero_mul, mkD_zero, mkD_zero, mkE_zero, mkE_zero]; exact ⟨rfl, rfl⟩
  · have h1 : n * 2 ^ k ≠ 0 := fun c => by
      rcases Nat.mul_eq_zero.1 c with c | c
      · exact h0 c
      · exact absurd c (Nat.pos_iff_ne_zero.1 (Nat.two_pow_pos k))
    obtain ⟨e1, e2⟩ := od_mul h0 k
    by_cases h : mkOk3 n x
    · rw [mkD_ok h1 ((mkOk3_shift k).2 h), mkD_ok h0 h, mkE_ok ((mkOk3_shift k).2 h), mkE_ok h, e1, e2]
      refine ⟨?_, rfl⟩
      congr 1; omega
    · have h' : ¬ mkOk3 (n * 2 ^ k) (x - k) := fun c => h ((mkOk3_shift k).1 c)
      rw [mkD_no h', mkD_no h, mkE_no h', mkE_no h]; exact ⟨rfl, rfl⟩
/-- A Dyad that may be is made of itself. -/
theorem mkD_self {d : Dy} (h : d.Num) : mkD d.g d.n d.x = d ∧ mkE d.n d.x = 0 := by
  obtain ⟨h1, h2, h3, h4⟩ := h
  have e1 := lowN_odd h2
  have e2 := odN_odd h2
  have hk : mkOk3 d.n d.x := Or.inr ⟨by rw [e2]; exact h1, by rw [e1]; omega, by rw [e1]; omega⟩
  rw [mkD_ok (odd_ne h2) hk, mkE_ok hk, e1, e2]
  refine ⟨?_, rfl⟩
  obtain ⟨g, n, x⟩ := d
  simp
end Go.Proofs.YtkbjlijcnlkbgaaDoor
set_option linter.unusedSimpArgs false
set_option linter.unusedVariables false
namespace Go.Proofs.YtkbjlijcnlkbgaaDoor
open Go Go.RowKit Nt

/-- A number of any length that a call made: its digits, no 0 at the end. -/
def BigP (z : Nat) (w : World) (e : Ending) (w' : World) : Prop := ∃ A c, e = .returned (.slice A (nd 256 z) c) ∧ Own w' w.heap.size 3 .i64 (.slice A (nd 256 z) c) (dl 256 z (nd 256 z)) ∧ Below w.heap.size w w'
theorem zmade (q : Nat) : madeCells #[.int .i64 0] q = fcells .i64 (dgt 256 0) q := by
  rw [fcells_made]
  exact fcells_congr fun j _ => by rw [dgt_def, Nat.zero_div]
theorem fcells_list3 (k : IntKind) (f : Nat → Nat) (L : Nat) : (fcells k f L).toList = (((List.range L).map f).map (fun (x : Nat) => Value.int k (x : Int))) := by
  unfold fcells; rw [List.map_map]; rfl
theorem Own.of_zero {w : World} {B g : Nat} {T : TypeId} {L : Nat} (h : Blk w g T (fcells .i64 (dgt 256 0) L)) (hB : B ≤ g) (hL : L ≤ 1000000000) :
    Own w B T .i64 (.slice (some ⟨g, 0, none⟩) L L) (dl 256 0 L) := by
  unfold Own
  rw [dl_length]
  refine ⟨by simp [dl_length], Or.inr ⟨g, L, fcells .i64 (dgt 256 0) L, rfl, hB, h, Nat.le_refl _, by unfold maxLen; omega, by rw [fcells_size, Nat.mul_one], ?_⟩⟩
  rw [fcells_list3, Nat.mul_one]
  exact List.take_of_length_le (by simp)
theorem low_zero (q z : Nat) : dl 256 (256 ^ q * z) q = dl 256 0 q := dl_congr fun i hi => by
  rw [← dgt_mod (256 ^ q * z) hi, Nat.mul_mod_right]
theorem low_skip (q z i : Nat) : dgt 256 (256 ^ q * z) (q + i) = dgt 256 z i := by
  have := dgt_skip (b := 256) (256 ^ q * z) q i
  rw [Nat.mul_div_cancel_left _ (Nat.pow_pos (by omega))] at this
  rw [this, Nat.add_comm]
theorem pow_split (b : Nat) : 2 ^ b = 256 ^ (b / 8) * 2 ^ (b % 8) := by
  rw [show (256 : Nat) = 2 ^ 8 from rfl, ← Nat.pow_mul, ← Nat.pow_add]
  congr 1; omega
theorem wr_sum (m D : Nat) (h1 : m < 256) (h2 : D ≤ 32640) : wrap64 ((m : Int) + wrap64 (D : Int)) = ((m + D : Nat) : Int) := by
  rw [IntWalk.wrap64_in (D : Int) (by omega), ← Int.natCast_add, IntWalk.wrap64_in _ (by omega)]
theorem wr_pow {d s r : Nat} (hs : 2 ^ r = s) : (d : Int) * 2 ^ r = ((d * s : Nat) : Int) := by rw [int_pow2, hs, Int.natCast_mul]
theorem wr_all {d s r m D : Nat} (hs : 2 ^ r = s) (hD : D = d * s) (h1 : m < 256) (h2 : D ≤ 32640) : Hid (wrap64 ((m : Int) + wrap64 ((d : Int) * 2 ^ r)) = ((m + D : Nat) : Int)) := Lib.hid (by rw [wr_pow hs, ← hD]; exact wr_sum m D h1 h2)
theorem shf_nat {n s k d m x y : Nat} (hs128 : s ≤ 128) (hd : d = dgt 256 n k) (hm : m = mca 256 n s 0 k) (hx : x = dgt 256 (n * s) k) (hy : y = mca 256 n s 0 (k + 1)) :
    ∃ D, D = d * s ∧ D ≤ 32640 ∧ (m + D) % 256 = x ∧ (m + D) / 256 = y ∧ d < 256 ∧ m < 256 ∧ x < 256 ∧ y < 256 := by
  have h1 := dgt_lt (b := 256) (by omega) n k
  have h2 := mca_lt (b := 256) (by omega) n s 0 k (by omega) (by omega)
  have h3 := dgt_mca (b := 256) (by omega) n s 0 k
  have h4 := mca_succ (b := 256) (by omega) n s 0 k
  have h5 := dgt_lt (b := 256) (by omega) (n * s) k
  have h6 := mca_lt (b := 256) (by omega) n s 0 (k + 1) (by omega) (by omega)
  rw [Nat.add_zero, ← hd, ← hm, ← hx, Nat.add_comm] at h3
  rw [← hd, ← hm, ← hy, Nat.add_comm] at h4
  rw [← hd] at h1
  rw [← hm] at h2
  rw [← hx] at h5
  rw [← hy] at h6
  have hb : d * s ≤ 255 * 128 := Nat.mul_le_mul (by omega) hs128
  exact ⟨d * s, rfl, hb, h3.symm, h4.symm, h1, h2, h5, h6⟩
theorem mod_int {S x : Nat} (h : S % 256 = x) : (S : Int).tmod 256 = (x : Int) := by rw [Int.tmod_eq_emod_of_nonneg (by omega)]; omega
theorem div_int {S y : Nat} (h : S / 256 = y) : (S : Int).tdiv 256 = (y : Int) := by rw [Int.tdiv_eq_ediv_of_nonneg (by omega)]; omega
theorem shf_num {n s r k d m x y : Nat} (hs : 2 ^ r = s) (hs128 : s ≤ 128) (hd : d = dgt 256 n k) (hm : m = mca 256 n s 0 k) (hx : x = dgt 256 (n * s) k) (hy : y = mca 256 n s 0 (k + 1)) :
    ∃ S : Nat, Hid (wrap64 ((m : Int) + wrap64 ((d : Int) * 2 ^ r)) = (S : Int)) ∧ (S : Int).tmod 256 = (x : Int) ∧ (S : Int).tdiv 256 = (y : Int) ∧ S ≤ 40000 ∧ d < 256 ∧ m < 256 ∧ x < 256 ∧ y < 256 := by
  obtain ⟨D, hD, hDb, h1, h2, h3, h4, h5, h6⟩ := shf_nat hs128 hd hm hx hy
  have hS : m + D ≤ 40000 := by clear hs hD h1 h2; omega
  have H := wr_all hs hD h4 hDb
  clear hs hD
  obtain ⟨S, hSe⟩ : ∃ S, S = m + D := ⟨_, rfl⟩
  rw [← hSe] at hS H h1 h2
  exact ⟨S, H, mod_int h1, div_int h2, hS, h3, h4, h5, h6⟩
theorem shf_last {n s L m : Nat} (hs128 : s ≤ 128) (hL : nd 256 n = L) (hm : m = mca 256 n s 0 L) (q : Nat) :
    m = dgt 256 (256 ^ q * (n * s)) (q + L) ∧ nd 256 (256 ^ q * (n * s)) ≤ q + L + 1 ∧ m < 256 := by
  have hn : n < 256 ^ L := by rw [← hL]; exact lt_nd (by omega)
  have h := mca_last (b := 256) (by omega) n s 0 L hn (by omega) (by omega)
  rw [Nat.add_zero] at h
  refine ⟨by rw [low_skip, hm, h], nd_le (by omega) ?_, by rw [hm, h]; exact dgt_lt (by omega) _ _⟩
  rw [Nat.add_assoc, Nat.pow_add]
  refine Nat.mul_lt_mul_of_pos_left ?_ (Nat.pow_pos (by omega))
  rw [Nat.pow_succ]
  exact Nat.mul_lt_mul'' hn (by omega)
set_option maxRecDepth 100000 in
set_option maxHeartbeats 1000000 in
theorem rShifted3_c (n b B : Nat) (A : Option Addr) (c : Nat) (w : World) (hn : nd 256 n ≤ 1000000) (hb0 : b ≤ 8000000) (h : Own w B 3 .i64 (.slice A (nd 256 n) c) (dl 256 n (nd 256 n))) :
    Calls Tryd.prog 26 #[.slice A (nd 256 n) c, .int .i64 (b : Nat)] w (BigP (n * 2 ^ b) w) := by
  by_cases h0 : n = 0
  · subst h0
    rw [nd_zero] at h ⊢
    have hz : nd 256 (0 * 2 ^ b) = 0 := by rw [Nat.zero_mul, nd_zero]
    have HP : Hid (Own w w.heap.size 3 .i64 (.slice none (nd 256 (0 * 2 ^ b)) 0) (dl 256 (0 * 2 ^ b) (nd 256 (0 * 2 ^ b)))) := Lib.hid (by rw [hz]; exact Own.nil _ _ _ _)
    have HZ := Lib.hid hz
    clear h hz
    go_enter Tryd.func26, Tryd.ntmps26
    go_wp2
    go_ret
    exact ⟨none, 0, by rw [HZ.out]; try rfl, HP.out, Below.refl _ _⟩
  · obtain ⟨i0, hi0, hz0, hj1, hj2⟩ := info_parts (P := Tryd.prog) (e := 3) (z := .int .i64 0) (size := 1) (bytes := 8) (by kernel_rfl)
    obtain ⟨L, hL⟩ : ∃ L, nd 256 n = L := ⟨_, rfl⟩
    have hL0 : L ≠ 0 := fun c => h0 ((nd_eq_zero (by omega)).1 (hL.trans c))
    rw [hL] at h hn ⊢
    obtain ⟨q, hq⟩ : ∃ q, b / 8 = q := ⟨_, rfl⟩
    obtain ⟨r, hr⟩ : ∃ r, b % 8 = r := ⟨_, rfl⟩
    obtain ⟨s, hs⟩ : ∃ s, 2 ^ r = s := ⟨_, rfl⟩
    have HE := Lib.hid (show n * 2 ^ b = 256 ^ q * (n * s) by rw [pow_split, hq, hr, hs]; rw [Nat.mul_left_comm])
    have hr8 : r < 8 := by omega
    have hs128 : s ≤ 128 := by rw [← hs]; exact Nat.pow_le_pow_right (n := 2) (by omega) (show r ≤ 7 by omega)
    have HLn := Lib.hid hL
    have HS := Lib.hid hs
    have HS128 := Lib.hid hs128
    have hsrc : Hid (∀ wr, Below w.heap.size w wr → ∀ j, j < L → ∃ g, A = some ⟨g, 0, none⟩ ∧ wr.cell? ⟨g, j, none⟩ = some (.int .i64 (dgt 256 n j : Nat))) := Lib.hid fun wr hbw j hj => by
      obtain ⟨g, cap, e, _, hg, hc, _⟩ := h.cell (j := j) (by rw [dl_length]; exact hj)
      injection e with e1 e2 e3
      rw [dlget3] at hc
      exact ⟨g, e1, (hbw.cell (p := ⟨g, j, none⟩) hg).trans hc⟩
    have hqI : (b : Int) / 8 = (q : Int) := by omega
    have hqt : (b : Int).tdiv 8 = (q : Int) := by rw [Int.tdiv_eq_ediv_of_nonneg (by omega)]; omega
    have hrI : (b : Int) % 8 = (r : Int) := by omega
    have hqb : q ≤ 1000000 := by omega
    clear h hL h0 hs hq hr hs128
    go_enter Tryd.func26, Tryd.ntmps26
    go_wp2_with (at_make; go_loud (refine wpList_make_zero _ rfl _ _ _ rfl 3 i0 _ Tryd.underlying57 hi0 hz0 hj1 .i64 .i64 _ _ q rfl rfl (by omega) (by omega) (by rw [hj2]; omega) (by unfold maxLen; omega) ?_))
    rw [zmade]
    have HO0 : Hid (Own (w.alloc (.cells (fcells .i64 (dgt 256 0) q) 3)) w.heap.size 3 .i64 (.slice (some ⟨w.heap.size, 0, none⟩) q q) (dl 256 (256 ^ q * (n * s)) (q + 0))) := Lib.hid (by
      rw [Nat.add_zero, low_zero]; exact Own.of_zero (Blk.new w 3 _) (Nat.le_refl _) (by omega))
    have hbl : Below w.heap.size w (w.alloc (.cells (fcells .i64 (dgt 256 0) q) 3)) := (Below.refl _ _).alloc (Nat.le_refl _) _
    generalize w.alloc (.cells (fcells .i64 (dgt 256 0) q) 3) = w1 at *
    go_loopw [5, 6, 7] (fun v m i wr => ∃ k mm : Nat, k ≤ L ∧ i = .int .i64 k ∧ m = .int .i64 mm ∧ Hid (mm = mca 256 n s 0 k) ∧ Hid (Own wr w.heap.size 3 .i64 v (dl 256 (256 ^ q * (n * s)) (q + k))) ∧ Below w.heap.size w wr) (fun _ _ i _ => L - (intOf i).toNat)
    case atStart => exact ⟨0, 0, Nat.zero_le _, rfl, rfl, Lib.hid (by rw [mca_zero]), HO0, hbl⟩
    case round =>
      obtain ⟨k, m, hk, rfl, rfl, hm, hown, hb⟩ := hrel
      by_cases hlt : k < L
      · obtain ⟨g, rfl, hc⟩ := hsrc.out wr hb k hlt
        obtain ⟨d, hd⟩ : ∃ d, d = dgt 256 n k := ⟨_, rfl⟩
        obtain ⟨x, hx⟩ : ∃ x, x = dgt 256 (n * s) k := ⟨_, rfl⟩
        obtain ⟨y, hy⟩ : ∃ y, y = mca 256 n s 0 (k + 1) := ⟨_, rfl⟩
        obtain ⟨S, HSS, htt, htd2, hSb, hd8, hm8, hx8, hy8⟩ := shf_num HS.out HS128.out hd hm.out hx hy
        rw [← hd] at hc
        have HX := Lib.hid (hx.trans (low_skip q (n * s) k).symm)
        have HY := Lib.hid hy
        have hlen : Hid ((dl 256 (256 ^ q * (n * s)) (q + k)).length + 1 ≤ 17592186044416) := Lib.hid (by rw [dl_length]; omega)
        clear hd hx hy
        go_wp2_with (at_builtin; simp only [HSS.out, htt]; go_loud (refine wpList_app1 wr rfl (.tmp 29) (.tmp 32) _ rfl w.heap.size 3 3 i0 .i64 8 Tryd.underlying57 hi0 hz0 hj1 hj2 (by omega) _ (dl 256 (256 ^ q * (n * s)) (q + k)) x rfl rfl hown.out hlen.out hb.size ?_); intro v5 w5 hown5 hb5 hfr5 hnw5)
        rw [HX.out, ← dl_succ] at hown5
        have HO5 := Lib.hid hown5
        clear hown5 hfr5 hnw5
        go_roundw
        case rel => exact ⟨k + 1, y, by omega, by go_num, rfl, HY, HO5, hb.trans hb5⟩
        case measure => simp [intOf]; omega
      · obtain rfl : k = L := by omega
        obtain ⟨hm2, hnd, hm8⟩ := shf_last HS128.out HLn.out hm.out q
        have HM2 := Lib.hid hm2
        have HND := Lib.hid hnd
        have hlen : Hid ((dl 256 (256 ^ q * (n * s)) (q + k)).length + 1 ≤ 17592186044416) := Lib.hid (by rw [dl_length]; omega)
        clear hm2 hnd hm hk hlt
        go_wp2_with (at_builtin; go_loud (refine wpList_app1 wr rfl (.tmp 36) (.tmp 38) _ rfl w.heap.size 3 3 i0 .i64 8 Tryd.underlying57 hi0 hz0 hj1 hj2 (by omega) _ (dl 256 (256 ^ q * (n * s)) (q + k)) m rfl rfl hown.out hlen.out hb.size ?_); intro v5 w5 hown5 hb5 hfr5 hnw5)
        rw [HM2.out, ← dl_succ] at hown5
        obtain ⟨A5, c5, rfl, hc5⟩ := hown5.len
        rw [dl_length] at hown5 ⊢
        have KC := Lib.hid (rCut3_c (256 ^ q * (n * s)) (q + k + 1) _ A5 c5 w5 HND.out (by omega) hown5)
        have HO5 := Lib.hid hown5
        clear hown5 hfr5 hnw5 hc5
        go_wp2_with fail
        refine KC.out.mono ?_
        rintro e w6 ⟨rfl, rfl⟩
        go_wp2_with fail
        go_ret
        rw [HE.out]
        exact ⟨_, _, rfl, HO5.out.cut HND.out, hb.trans hb5⟩
end Go.Proofs.YtkbjlijcnlkbgaaDoor
set_option linter.unusedSimpArgs false
set_option linter.unusedVariables false
namespace Go.Proofs.YtkbjlijcnlkbgaaDoor
open Go Go.RowKit Nt

theorem plus_num3 {x y k q d e : Nat} (hq : q = car 256 x y k) (hd : d = dgt 256 (x + y) k) (he : e = car 256 x y (k + 1)) :
    q ≤ 1 ∧ (q + dgt 256 x k + dgt 256 y k) % 256 = d ∧ (q + dgt 256 x k + dgt 256 y k) / 256 = e ∧ dgt 256 x k < 256 ∧ dgt 256 y k < 256 ∧ d < 256 ∧ e ≤ 1 := by
  have h1 := car_le (b := 256) (by omega) x y k
  have h2 := dgt_add (b := 256) (by omega) x y k
  have h3 := car_succ (b := 256) (by omega) x y k
  have h4 := dgt_lt (b := 256) (by omega) x k
  have h5 := dgt_lt (b := 256) (by omega) y k
  have h6 := car_le (b := 256) (by omega) x y (k + 1)
  rw [← hq] at h1 h2 h3
  rw [← hd] at h2
  rw [← he] at h3 h6
  exact ⟨h1, by omega, by omega, h4, h5, by omega, h6⟩
theorem sum3_i3 {q a b d e : Nat} (h1 : (q + a + b) % 256 = d) (h2 : (q + a + b) / 256 = e) : ((q : Int) + (a : Int) + (b : Int)) % 256 = (d : Int) ∧ ((q : Int) + (a : Int) + (b : Int)).tdiv 256 = (e : Int) :=
  ⟨by omega, by rw [Int.tdiv_eq_ediv_of_nonneg (by omega)]; omega⟩
theorem plus_last {x y M q : Nat} (hx : nd 256 x ≤ M) (hy : nd 256 y ≤ M) (hq : q = car 256 x y M) : q = dgt 256 (x + y) M ∧ nd 256 (x + y) ≤ M + 1 ∧ q ≤ 1 := by
  have h1 := (lt_pow_iff (b := 256) (by omega) M x).2 hx
  have h2 := (lt_pow_iff (b := 256) (by omega) M y).2 hy
  refine ⟨hq.trans (car_last (by omega) x y M h1 h2), nd_le (by omega) ?_, by rw [hq]; exact car_le (by omega) _ _ _⟩
  rw [Nat.pow_succ]; omega
set_option maxRecDepth 100000 in
set_option maxHeartbeats 1000000 in
theorem rPlus3_c (x y B B' : Nat) (A A' : Option Addr) (c c' : Nat) (w : World) (hx : nd 256 x ≤ 1000000) (hy : nd 256 y ≤ 1000000) (h : Own w B 3 .i64 (.slice A (nd 256 x) c) (dl 256 x (nd 256 x))) (h' : Own w B' 3 .i64 (.slice A' (nd 256 y) c') (dl 256 y (nd 256 y))) :
    Calls Tryd.prog 29 #[.slice A (nd 256 x) c, .slice A' (nd 256 y) c'] w (BigP (x + y) w) := by
  obtain ⟨i0, hi0, hz0, hj1, hj2⟩ := info_parts (P := Tryd.prog) (e := 3) (z := .int .i64 0) (size := 1) (bytes := 8) (by kernel_rfl)
  obtain ⟨X, hX⟩ : ∃ X, X = nd 256 x := ⟨_, rfl⟩
  obtain ⟨Y, hY⟩ : ∃ Y, Y = nd 256 y := ⟨_, rfl⟩
  obtain ⟨M, hM1, hM2, hM3, hM4⟩ : ∃ M, X ≤ M ∧ Y ≤ M ∧ M ≤ 1000000 ∧ (M = X ∨ M = Y) := ⟨max X Y, by omega, by omega, by omega, by omega⟩
  rw [← hX] at h hx ⊢
  rw [← hY] at h' hy ⊢
  have HX := Lib.hid hX
  have HY := Lib.hid hY
  have HO1 := Lib.hid h
  have HO2 := Lib.hid h'
  have HM4 := Lib.hid hM4
  clear hX hY h h' hM4
  go_enter Tryd.func29, Tryd.ntmps29
  go_wp2_with fail
  go_loopw [5, 6, 7] (fun v m i wr => ∃ (k q : Nat), k ≤ M ∧ i = .int .i64 k ∧ m = .int .i64 q ∧ Hid (q = car 256 x y k) ∧ Hid (Own wr w.heap.size 3 .i64 v (dl 256 (x + y) k)) ∧ Below w.heap.size w wr) (fun _ _ i _ => M - (intOf i).toNat)
  case atStart => exact ⟨0, 0, by omega, rfl, rfl, Lib.hid (car_zero _ _ _).symm, Lib.hid (Own.nil _ _ _ _), Below.refl _ _⟩
  case round =>
    obtain ⟨k, q, hk, rfl, rfl, hq, hown, hb⟩ := hrel
    by_cases hlt : k < M
    · obtain ⟨d, hd⟩ : ∃ d, d = dgt 256 (x + y) k := ⟨_, rfl⟩
      obtain ⟨e, he⟩ : ∃ e, e = car 256 x y (k + 1) := ⟨_, rfl⟩
      obtain ⟨hq1, hdd, hee, ha, hbb, hd256, he1⟩ := plus_num3 hq.out hd he
      have K1 := rAt3_c x X k _ A c wr (by have := HX.out; omega) (by omega) (by omega) (HO1.out.below hb (fun g e => (HO1.out.lt g e).2))
      have K2 := rAt3_c y Y k _ A' c' wr (by have := HY.out; omega) (by omega) (by omega) (HO2.out.below hb (fun g e => (HO2.out.lt g e).2))
      generalize dgt 256 x k = a at *
      generalize dgt 256 y k = b at *
      have H1 := Lib.hid K1
      have H2 := Lib.hid K2
      have hw1 : wrap64 ((q : Int) + (a : Int)) = (q : Int) + (a : Int) := IntWalk.wrap64_in _ (by omega)
      obtain ⟨hdI, hqq⟩ := sum3_i3 hdd hee
      have hlen : Hid ((dl 256 (x + y) k).length + 1 ≤ 17592186044416) := Lib.hid (by rw [dl_length]; omega)
      have HD := Lib.hid hd
      have HE := Lib.hid he
      clear K1 K2 hd hdd hee he
      have hcase : k < X ∨ (¬ k < X ∧ k < Y) := by
        rcases HM4.out with e | e
        · exact Or.inl (e ▸ hlt)
        · by_cases c : k < X
          · exact Or.inl c
          · exact Or.inr ⟨c, e ▸ hlt⟩
      have hkb : k ≤ 900000000 := by omega
      have HKM := Lib.hid hlt
      have HM1 := Lib.hid hM1
      have HM2 := Lib.hid hM2
      clear hlt hk hM1 hM2 hM3 hx hy
      rcases hcase with h | ⟨h, h'⟩
      all_goals
        go_wp2_with fail
        refine H1.out.mono ?_
        rintro e w' ⟨rfl, rfl⟩
        go_wp2_with fail
        refine H2.out.mono ?_
        rintro e w' ⟨rfl, rfl⟩
        go_wp2_with (at_builtin; go_loud (refine wpList_app1 wr rfl (.tmp 29) (.tmp 32) _ rfl w.heap.size 3 3 i0 .i64 8 Tryd.underlying57 hi0 hz0 hj1 hj2 (by omega) _ (dl 256 (x + y) k) d rfl rfl hown.out hlen.out hb.size ?_); intro v5 w5 hown5 hb5 hfr5 hnw5)
        rw [HD.out, ← dl_succ] at hown5
        have HO5 := Lib.hid hown5
        clear hown5 hfr5 hnw5
        go_roundw
        case rel => exact ⟨k + 1, _, by have := HKM.out; omega, by go_num, rfl, HE, HO5, hb.trans hb5⟩
        case measure =>
          have := HKM.out
          clear hdI hqq hw1 hq1
          simp [intOf]; omega
    · obtain rfl : k = M := by omega
      obtain ⟨hm2, hnd, hm8⟩ := plus_last (by have := HX.out; omega) (by have := HY.out; omega) hq.out
      have HM2 := Lib.hid hm2
      have HND := Lib.hid hnd
      have hlen : Hid ((dl 256 (x + y) k).length + 1 ≤ 17592186044416) := Lib.hid (by rw [dl_length]; omega)
      have h1 : ¬ k < X := by omega
      have h2 : ¬ k < Y := by omega
      clear hm2 hnd hq hlt
      go_wp2_with (at_builtin; go_loud (refine wpList_app1 wr rfl (.tmp 36) (.tmp 38) _ rfl w.heap.size 3 3 i0 .i64 8 Tryd.underlying57 hi0 hz0 hj1 hj2 (by omega) _ (dl 256 (x + y) k) q rfl rfl hown.out hlen.out hb.size ?_); intro v5 w5 hown5 hb5 hfr5 hnw5)
      rw [HM2.out, ← dl_succ] at hown5
      obtain ⟨A5, c5, rfl, hc5⟩ := hown5.len
      rw [dl_length] at hown5 ⊢
      have KC := Lib.hid (rCut3_c (x + y) (k + 1) _ A5 c5 w5 HND.out (by omega) hown5)
      have HO5 := Lib.hid hown5
      clear hown5 hfr5 hnw5 hc5
      go_wp2_with fail
      refine KC.out.mono ?_
      rintro e w6 ⟨rfl, rfl⟩
      go_wp2_with fail
      go_ret
      exact ⟨_, _, rfl, HO5.out.cut HND.out, hb.trans hb5⟩
theorem sub_step3 (x y k : Nat) (h : y ≤ x) :
    (dgt 256 x k < dgt 256 y k + bor 256 x y k → dgt 256 (x - y) k + dgt 256 y k + bor 256 x y k = dgt 256 x k + 256 ∧ bor 256 x y (k + 1) = 1) ∧
    (¬ dgt 256 x k < dgt 256 y k + bor 256 x y k → dgt 256 (x - y) k + dgt 256 y k + bor 256 x y k = dgt 256 x k ∧ bor 256 x y (k + 1) = 0) := by
  have h1 := dgt_sub (b := 256) (by omega) x y k h
  have h2 := bor_succ (b := 256) (by omega) x y k
  have h3 := bor_le 256 x y k
  have h4 := dgt_lt (b := 256) (by omega) x k
  have h5 := dgt_lt (b := 256) (by omega) y k
  refine ⟨fun c => ?_, fun c => ?_⟩
  · rw [if_pos c] at h2
    exact ⟨by omega, h2⟩
  · rw [if_neg c] at h2
    exact ⟨by omega, h2⟩
theorem nd_sub (x y : Nat) : nd 256 (x - y) ≤ nd 256 x := nd_mono (by omega) (Nat.sub_le _ _)
set_option maxRecDepth 100000 in
set_option maxHeartbeats 1000000 in
theorem rMinus3_c (x y B B' : Nat) (A A' : Option Addr) (c c' : Nat) (w : World) (hle : y ≤ x) (hx : nd 256 x ≤ 1000000) (h : Own w B 3 .i64 (.slice A (nd 256 x) c) (dl 256 x (nd 256 x))) (h' : Own w B' 3 .i64 (.slice A' (nd 256 y) c') (dl 256 y (nd 256 y))) :
    Calls Tryd.prog 31 #[.slice A (nd 256 x) c, .slice A' (nd 256 y) c'] w (BigP (x - y) w) := by
  obtain ⟨i0, hi0, hz0, hj1, hj2⟩ := info_parts (P := Tryd.prog) (e := 3) (z := .int .i64 0) (size := 1) (bytes := 8) (by kernel_rfl)
  have hy : nd 256 y ≤ 1000000 := Nat.le_trans (nd_mono (by omega) hle) hx
  have hnd := nd_sub x y
  obtain ⟨X, hX⟩ : ∃ X, X = nd 256 x := ⟨_, rfl⟩
  obtain ⟨Y, hY⟩ : ∃ Y, Y = nd 256 y := ⟨_, rfl⟩
  rw [← hX] at h hx hnd ⊢
  rw [← hY] at h' hy ⊢
  have HX := Lib.hid hX
  have HY := Lib.hid hY
  have HO3 := Lib.hid h
  have HO2 := Lib.hid h'
  have HLE := Lib.hid hle
  have HND := Lib.hid hnd
  clear hX hY h h' hle hnd
  go_enter Tryd.func31, Tryd.ntmps31
  go_wp2_with fail
  go_loopw [5, 6, 7] (fun v m i wr => ∃ (k q : Nat), k ≤ X ∧ i = .int .i64 k ∧ m = .int .i64 q ∧ Hid (q = bor 256 x y k) ∧ Hid (Own wr w.heap.size 3 .i64 v (dl 256 (x - y) k)) ∧ Below w.heap.size w wr) (fun _ _ i _ => X - (intOf i).toNat)
  case atStart => exact ⟨0, 0, by omega, rfl, rfl, Lib.hid (bor_zero _ _ _).symm, Lib.hid (Own.nil _ _ _ _), Below.refl _ _⟩
  case round =>
    obtain ⟨k, q, hk, rfl, rfl, hq, hown, hb⟩ := hrel
    by_cases hlt : k < X
    · obtain ⟨d, hd⟩ : ∃ d, d = dgt 256 (x - y) k := ⟨_, rfl⟩
      obtain ⟨st1, st2⟩ := sub_step3 x y k HLE.out
      rw [← hq.out, ← hd] at st1 st2
      have ha := dgt_lt (b := 256) (by omega) x k
      have hb' := dgt_lt (b := 256) (by omega) y k
      have hd2 := dgt_lt (b := 256) (by omega) (x - y) k
      have hq1 := bor_le 256 x y k
      rw [← hd] at hd2
      rw [← hq.out] at hq1
      obtain ⟨g, cap, e1, _, hg, hcell, hfz⟩ := (HO3.out.below hb (fun g e => (HO3.out.lt g e).2)).cell (j := k) (by rw [dl_length]; exact hlt)
      injection e1 with e1 e2 e3
      subst e1
      rw [dlget3] at hcell
      have K2 := fun m => rAt3_c y Y k _ A' c' (wr.drewN m) (by have := HY.out; omega) (by omega) (by omega) ((HO2.out.below hb (fun g e => (HO2.out.lt g e).2)).drewN m)
      generalize dgt 256 x k = a at *
      generalize dgt 256 y k = b at *
      have H2 := Lib.hid K2
      have HD := Lib.hid hd
      have hlen : Hid ((dl 256 (x - y) k).length + 1 ≤ 17592186044416) := Lib.hid (by rw [dl_length]; omega)
      have hw1 : IntKind.i64.wrap ((a : Int) - (b : Int)) = (a : Int) - (b : Int) := IntWalk.i64_in _ (by omega)
      have hw2 : IntKind.i64.wrap ((a : Int) - (b : Int) - (q : Int)) = (a : Int) - (b : Int) - (q : Int) := IntWalk.i64_in _ (by omega)
      clear K2 hd hfz e2 e3
      have hkb : k ≤ 1000000 := by omega
      have HKX := Lib.hid hlt
      have HST1 := Lib.hid st1
      have HST2 := Lib.hid st2
      clear st1 st2 hk
      by_cases hc : a < b + q
      · obtain ⟨s1, s2⟩ := HST1.out hc
        have HB := Lib.hid s2.symm
        have hdd : (a : Int) - (b : Int) - (q : Int) + 256 = (d : Int) := by omega
        have hneg : (a : Int) - (b : Int) - (q : Int) < 0 := by omega
        clear s1 s2 hc
        go_wp2_with fail
        go_quiet ((go_at_call 53; exact Calls.quiet_of_same ((H2.out _).mono fun _ _ h => ⟨h.1, h.2.symm⟩)))
        rename_i nq
        have hbq := below_drewN hb nq
        have hownq := Lib.hid (hown.out.drewN nq)
        generalize wr.drewN nq = wq at *
        go_wp2_with (at_builtin; go_loud (refine wpList_app1 wq rfl (.tmp 29) (.tmp 31) _ rfl w.heap.size 3 3 i0 .i64 8 Tryd.underlying57 hi0 hz0 hj1 hj2 (by omega) _ (dl 256 (x - y) k) d rfl rfl hownq.out hlen.out hbq.size ?_); intro v5 w5 hown5 hb5 hfr5 hnw5)
        rw [HD.out, ← dl_succ] at hown5
        have HO5 := Lib.hid hown5
        clear hown5 hfr5 hnw5
        go_roundw
        case rel => exact ⟨k + 1, 1, by have := HKX.out; omega, by go_num, rfl, HB, HO5, hbq.trans hb5⟩
        case measure =>
          have := HKX.out
          clear hw1 hw2 hdd hneg
          simp [intOf]; omega
      · obtain ⟨s1, s2⟩ := HST2.out hc
        have HB := Lib.hid s2.symm
        have hdz : (a : Int) - (b : Int) - (q : Int) = (d : Int) := by omega
        have hd0 : ¬ (d : Int) < 0 := by omega
        clear s1 s2 hc
        go_wp2_with fail
        go_quiet ((go_at_call 53; exact Calls.quiet_of_same ((H2.out _).mono fun _ _ h => ⟨h.1, h.2.symm⟩)))
        rename_i nq
        have hbq := below_drewN hb nq
        have hownq := Lib.hid (hown.out.drewN nq)
        generalize wr.drewN nq = wq at *
        go_wp2_with (at_builtin; go_loud (refine wpList_app1 wq rfl (.tmp 29) (.tmp 31) _ rfl w.heap.size 3 3 i0 .i64 8 Tryd.underlying57 hi0 hz0 hj1 hj2 (by omega) _ (dl 256 (x - y) k) d rfl rfl hownq.out hlen.out hbq.size ?_); intro v5 w5 hown5 hb5 hfr5 hnw5)
        rw [HD.out, ← dl_succ] at hown5
        have HO5 := Lib.hid hown5
        clear hown5 hfr5 hnw5
        go_roundw
        case rel => exact ⟨k + 1, 0, by have := HKX.out; omega, by go_num, rfl, HB, HO5, hbq.trans hb5⟩
        case measure =>
          have := HKX.out
          clear hw1 hw2 hdz
          simp [intOf]; omega
    · obtain rfl : k = X := by omega
      obtain ⟨A5, c5, rfl, hc5⟩ := hown.out.len
      have hown5 := hown.out
      rw [dl_length] at hown5 ⊢
      have KC := Lib.hid (rCut3_c (x - y) k _ A5 c5 wr HND.out (by omega) hown5)
      have HO5 := Lib.hid hown5
      clear hown5 hc5 hown
      go_wp2_with fail
      refine KC.out.mono ?_
      rintro e w6 ⟨rfl, rfl⟩
      go_wp2_with fail
      go_ret
      exact ⟨_, _, rfl, HO5.out.cut HND.out, hb⟩
end Go.Proofs.YtkbjlijcnlkbgaaDoor
set_option linter.unusedSimpArgs false
set_option linter.unusedVariables false
namespace Go.Proofs.YtkbjlijcnlkbgaaDoor
open Go Go.RowKit Nt

/-- The digits of a number stand at A. -/
def DRow (w : World) (A : Option Addr) (n L : Nat) : Prop := ∀ j, j < L → ∃ g, A = some ⟨g, 0, none⟩ ∧ g < w.heap.size ∧ w.cell? ⟨g, j, none⟩ = some (.int .i64 (dgt 256 n j : Nat))
theorem Own.drow {w : World} {B : Nat} {T : TypeId} {A : Option Addr} {L c n : Nat} (h : Own w B T .i64 (.slice A L c) (dl 256 n L)) : DRow w A n L := fun j hj => by
  obtain ⟨g, cap, e, _, hg, hc, _⟩ := h.cell (j := j) (by rw [dl_length]; exact hj)
  injection e with e1 e2 e3
  rw [dlget3] at hc
  exact ⟨g, e1, hg, hc⟩
set_option maxHeartbeats 400000 in
theorem rCmp3_c (a b B B' : Nat) (A A' : Option Addr) (c c' : Nat) (w : World) (hL : nd 256 a ≤ 1000000) (hL' : nd 256 b ≤ 1000000) (hr : Own w B 3 .i64 (.slice A (nd 256 a) c) (dl 256 a (nd 256 a))) (hr' : Own w B' 3 .i64 (.slice A' (nd 256 b) c') (dl 256 b (nd 256 b))) :
    Calls Tryd.prog 30 #[.slice A (nd 256 a) c, .slice A' (nd 256 b) c'] w fun e w' => e = .returned (.int .i64 (cmpN a b)) ∧ ∃ n, w' = w.drewN n := by
  have HR := Lib.hid hr.drow
  have HR' := Lib.hid hr'.drow
  clear hr hr'
  rcases Nat.lt_trichotomy (nd 256 a) (nd 256 b) with h | h | h
  · have hn : ((nd 256 a : Int) != (nd 256 b : Int)) = true := by rw [bne_iff_ne]; omega
    have HC := Lib.hid (cmpN_lt (lt_of_nd (b := 256) (by omega) h))
    go_enter Tryd.func30, Tryd.ntmps30
    go_wp2
    go_ret
    exact ⟨ret_int HC.out.symm, 0, rfl⟩
  · have ha := lt_nd (b := 256) (n := a) (by omega)
    have hb := lt_nd (b := 256) (n := b) (by omega)
    rw [← h] at hb hL' HR' ⊢
    have HA := Lib.hid ha
    have HB := Lib.hid hb
    have HE := Lib.hid h
    clear ha hb h
    obtain ⟨L, hLe⟩ : ∃ L, L = nd 256 a := ⟨_, rfl⟩
    have hLL : L ≤ 1000000000 := by omega
    rw [← hLe] at HA HB HR HR' ⊢
    have hw : wrap64 ((L : Int) - 1) = (L : Int) - 1 := IntWalk.wrap64_in _ (by omega)
    have hn : ((L : Int) != (L : Int)) = false := by simp
    have HLE := Lib.hid hLe
    clear hLe
    go_enter Tryd.func30, Tryd.ntmps30
    go_wp2
    go_loopw [5] (fun i wr => ∃ (k : Nat) (z : Int) (m : Nat), k ≤ L ∧ i = .int .i64 z ∧ Hid (z = (k : Int) - 1) ∧ Hid (∀ j, k ≤ j → j < L → dgt 256 a j = dgt 256 b j) ∧ wr = w.drewN m) (fun i _ => (intOf i + 1).toNat)
    case atStart => exact ⟨L, _, 0, Nat.le_refl _, rfl, Lib.hid rfl, Lib.hid (fun j h1 h2 => by omega), rfl⟩
    case round =>
      obtain ⟨k, z, mm, hk, rfl, hz, hd, rfl⟩ := hrel
      by_cases h0 : k = 0
      · subst h0
        obtain rfl : z = -1 := by have := hz.out; omega
        go_wp2
        go_ret
        refine ⟨ret_int ?_, _, rfl⟩
        obtain rfl : a = b := eq_of_digits HA.out HB.out (fun i hi => hd.out i (by omega) hi)
        exact (cmpN_eq _).symm
      · obtain ⟨m, rfl⟩ : ∃ m, k = m + 1 := ⟨k - 1, by omega⟩
        obtain rfl : z = (m : Int) := by have := hz.out; omega
        obtain ⟨g, rfl, _, hc⟩ := HR.out m (by omega)
        obtain ⟨g', rfl, _, hc'⟩ := HR'.out m (by omega)
        have hm : m < L := by omega
        have hw : wrap64 ((m : Int) - 1) = (m : Int) - 1 := IntWalk.wrap64_in _ (by omega)
        rcases Nat.lt_trichotomy (dgt 256 a m) (dgt 256 b m) with hlt | heq | hgt
        · have HC := Lib.hid (cmpN_lt (lt_of_digit (b := 256) (by omega) HA.out HB.out hm hd.out hlt))
          have h1 : (((dgt 256 a m : Nat) : Int) != ((dgt 256 b m : Nat) : Int)) = true := by rw [bne_iff_ne]; omega
          go_wp2
          go_quiet (fail)
          go_wp2
          go_quiet (fail)
          go_wp2
          go_ret
          exact ⟨ret_int HC.out.symm, by first | exact Drawn.more ⟨_, rfl⟩ _ | exact Drawn.more (Drawn.more ⟨_, rfl⟩ _) _⟩
        · have HD := Lib.hid heq
          have h1 : (((dgt 256 a m : Nat) : Int) != ((dgt 256 b m : Nat) : Int)) = false := by rw [bne_eq_false_iff_eq]; omega
          clear heq
          go_wp2
          go_quiet (fail)
          go_wp2
          go_roundw
          case rel => exact ⟨m, _, _, by omega, rfl, Lib.hid rfl, Lib.hid (fun j h1 h2 => by
            rcases Nat.lt_or_ge m j with h3 | h3
            · exact hd.out j h3 h2
            · obtain rfl : j = m := by omega
              exact HD.out), rfl⟩
          case measure => simp [intOf]
        · have HC := Lib.hid (cmpN_gt (lt_of_digit (b := 256) (by omega) HB.out HA.out hm (fun j h1 h2 => (hd.out j h1 h2).symm) hgt))
          have h1 : (((dgt 256 a m : Nat) : Int) != ((dgt 256 b m : Nat) : Int)) = true := by rw [bne_iff_ne]; omega
          have h2 : ¬ dgt 256 a m < dgt 256 b m := by omega
          go_wp2
          go_quiet (fail)
          go_wp2
          go_quiet (fail)
          go_wp2
          go_ret
          exact ⟨ret_int HC.out.symm, by first | exact Drawn.more ⟨_, rfl⟩ _ | exact Drawn.more (Drawn.more ⟨_, rfl⟩ _) _⟩
  · have hn : ((nd 256 a : Int) != (nd 256 b : Int)) = true := by rw [bne_iff_ne]; omega
    have HC := Lib.hid (cmpN_gt (lt_of_nd (b := 256) (by omega) h))
    have h2 : ¬ nd 256 a < nd 256 b := by omega
    go_enter Tryd.func30, Tryd.ntmps30
    go_wp2
    go_ret
    exact ⟨ret_int HC.out.symm, 0, rfl⟩
theorem halv_dgt (n q r j : Nat) (hr : r < 8) : dgt 256 (n / 2 ^ (8 * q + r)) j = (dgt 256 n (q + j) + 256 * dgt 256 n (q + j + 1)) / 2 ^ r % 256 := by
  have e : n / 2 ^ (8 * q + r) = n / 256 ^ q / 2 ^ r := by
    rw [Nat.pow_add, Nat.pow_mul, Nat.div_div_eq_div_mul]
  rw [e]
  have h := dgt_shr (e := 8) (n / 256 ^ q) r j (by omega)
  rw [show (2 : Nat) ^ 8 = 256 from rfl, dgt_skip, dgt_skip, Nat.add_comm j q, Nat.add_right_comm j 1 q, Nat.add_comm j q] at h
  rw [h]
  have h1 := dgt_lt (b := 256) (by omega) n (q + j)
  have h2 := dgt_lt (b := 256) (by omega) n (q + j + 1)
  generalize dgt 256 n (q + j) = a at *
  generalize dgt 256 n (q + j + 1) = b at *
  clear h e
  have : r = 0 ∨ r = 1 ∨ r = 2 ∨ r = 3 ∨ r = 4 ∨ r = 5 ∨ r = 6 ∨ r = 7 := by omega
  rcases this with rfl | rfl | rfl | rfl | rfl | rfl | rfl | rfl <;> simp <;> omega
theorem hv_int {a b r x : Nat} (h1 : a < 256) (h2 : b < 256) (hx : (a + 256 * b) / 2 ^ r % 256 = x) :
    ∃ S T : Nat, Hid (S = a + 256 * b) ∧ IntKind.i64.wrap ((256 : Int) * (b : Int)) = 256 * (b : Int) ∧ IntKind.i64.wrap ((a : Int) + 256 * (b : Int)) = (S : Int) ∧ Hid ((S : Int) / 2 ^ r = (T : Int)) ∧ (T : Int).tmod 256 = (x : Int) ∧ S ≤ 65535 ∧ T ≤ 65535 ∧ x < 256 := by
  refine ⟨a + 256 * b, (a + 256 * b) / 2 ^ r, Lib.hid rfl, IntWalk.i64_in _ (by clear hx; omega), ?_, Lib.hid (by rw [int_pow2, Int.natCast_ediv]), ?_, by clear hx; omega, Nat.le_trans (Nat.div_le_self _ _) (by clear hx; omega), by rw [← hx]; exact Nat.mod_lt _ (by omega)⟩
  · rw [IntWalk.i64_in _ (by clear hx; omega)]; rw [Int.natCast_add, Int.natCast_mul]; rfl
  · exact mod_int hx
theorem halv_nd {n q r L k : Nat} (h : nd 256 n ≤ L) (hk : L ≤ q + k) : nd 256 (n / 2 ^ (8 * q + r)) ≤ k := by
  refine nd_le (by omega) ?_
  have h1 := (lt_pow_iff (b := 256) (by omega) L n).2 h
  rw [Nat.div_lt_iff_lt_mul (Nat.two_pow_pos _)]
  have h2 : 256 ^ L ≤ 256 ^ k * 2 ^ (8 * q + r) := by
    rw [Nat.pow_add, Nat.pow_mul, show (2 : Nat) ^ 8 = 256 from rfl, ← Nat.mul_assoc, ← Nat.pow_add]
    exact Nat.le_trans (Nat.pow_le_pow_right (by omega) (by omega)) (Nat.le_mul_of_pos_right _ (Nat.two_pow_pos _))
  omega
end Go.Proofs.YtkbjlijcnlkbgaaDoor
set_option linter.unusedSimpArgs false
set_option linter.unusedVariables false
namespace Go.Proofs.YtkbjlijcnlkbgaaDoor
open Go Go.RowKit Nt

theorem step_app1 {P : Program} (W : World) {ops : Array Oper} {o : Oper} {a : Act} {K : Act → World → Prop} {Q : Exit → Act → World → Prop} {E : Prop} (hgd : o.guard = none) (s x : Operand) (t : TypeId)
    (ho : o.op = .call { callee := .builtin .append, args := #[s, x], argTypes := #[t, t] })
    (B : Nat) (e : TypeId) (i : TypeInfo) (k : IntKind) (bytes : Nat) (ht : P.underlying t = some (.slice e)) (hi : P.info? e = some i) (hz : i.zero = some (.int k 0))
    (hsize : i.size = 1) (hby : i.bytes = bytes) (hb8 : bytes ≤ 8)
    (v : Value) (l : List Nat) (y : Nat) (ad : Addr) (hs : a.eval s = v) (hx : a.eval x = .slice (some ad) 1 1) (hcx : W.cell? ad = some (.int k (y : Nat))) (hown : Own W B e k v l)
    (hn : l.length + 1 ≤ 17592186044416) (hB : B ≤ W.heap.size)
    (h : ∀ v' w', Own w' B e k v' (l ++ [y]) → Below B W w' → K (a.put o.dst v') w') :
    if Region.wanted o (yielded ops a.tmps) = true then Oper.wp P o a W K Q else E := by
  have hw : Region.wanted o (yielded ops a.tmps) = true := by simp [Region.wanted, hgd]
  rw [if_pos hw]
  have hbytes : (l.length + 1) * bytes ≤ 140737488355328 := by
    have h1 : (l.length + 1) * bytes ≤ (l.length + 1) * 8 := Nat.mul_le_mul_left _ hb8
    omega
  obtain ⟨v', w', hrun, h2, hg, _, h5⟩ := run_append_own_at (P := P) W B t o.type e i (.int k 0) 1 bytes ht hi hz hsize hby rfl (by omega) v l.length (l.map (fun (x : Nat) => Value.int k (x : Int))) hown
    ad 1 1 [.int k (y : Nat)] rfl (by
      intro j u hu
      have hj : j = 0 := by
        rcases Nat.lt_or_ge j 1 with h | h
        · omega
        · rw [List.getElem?_eq_none (by simpa using h)] at hu; cases hu
      subst hj
      have e0 : ad.add 0 = ad := by unfold Addr.add; simp
      rw [e0, hcx]
      exact hu) (by
      intro u hu
      rw [List.mem_singleton.1 hu]; rfl) (by simp [maxLen]; omega) hbytes hB
  unfold Oper.wp execOp
  simp only [ho, resolve, invoke, builtin, Sem.run_bind, Sem.run_pure, Result.andThen_ok, List.map_toArray, List.map_cons, List.map_nil, hs, hx, hrun]
  refine h v' w' ?_ ?_
  · unfold Own
    simpa using h2
  · exact Below.grown (Below.refl _ _) hg hB (fun g e => (hown.lt g e).1)
set_option maxRecDepth 100000 in
set_option maxHeartbeats 1000000 in
theorem rHalved3_c (n q r B : Nat) (A : Option Addr) (c : Nat) (w : World) (hr : r < 8) (hq : q ≤ 1000000) (hn : nd 256 n ≤ 1000000) (h : Own w B 3 .i64 (.slice A (nd 256 n) c) (dl 256 n (nd 256 n))) :
    Calls Tryd.prog 52 #[.slice A (nd 256 n) c, .int .i64 ((8 * q + r : Nat) : Int)] w (BigP (n / 2 ^ (8 * q + r)) w) := by
  obtain ⟨i0, hi0, hz0, hj1, hj2⟩ := info_parts (P := Tryd.prog) (e := 3) (z := .int .i64 0) (size := 1) (bytes := 8) (by kernel_rfl)
  have hdd := halv_dgt n q r
  have hnn := @halv_nd n q r
  obtain ⟨b, hbe⟩ : ∃ b, b = 8 * q + r := ⟨_, rfl⟩
  obtain ⟨z, hz⟩ : ∃ z, z = n / 2 ^ b := ⟨_, rfl⟩
  rw [← hbe] at hdd hnn ⊢
  rw [← hz] at hdd ⊢
  have hbq : (b : Int).tdiv 8 = (q : Int) := by rw [Int.tdiv_eq_ediv_of_nonneg (by omega)]; omega
  have hbr : IntKind.i64.wrap ((b : Int).tmod 8) = (r : Int) := by
    rw [Int.tmod_eq_emod_of_nonneg (by omega), IntWalk.i64_in _ (by omega)]; omega
  have hbr2 : (b : Int).tmod 8 = (r : Int) := by rw [Int.tmod_eq_emod_of_nonneg (by omega)]; omega
  have hnz : ∀ {L k : Nat}, nd 256 n ≤ L → L ≤ q + k → nd 256 z ≤ k := fun h1 h2 => by rw [hz]; exact hnn h1 h2
  obtain ⟨L, hL⟩ : ∃ L, L = nd 256 n := ⟨_, rfl⟩
  rw [← hL] at h hn ⊢
  have HL := Lib.hid hL
  have HO := Lib.hid h
  have HDD := Lib.hid (fun j => hdd j hr)
  have HNZ := Lib.hid (fun k => @hnz L k (by rw [hL]; exact Nat.le_refl _))
  clear hL h hdd hnn hnz hz hbe
  go_enter Tryd.func52, Tryd.ntmps52
  go_wp2_with fail
  go_loopw [5, 6] (fun v i wr => ∃ (k p : Nat), (p = q + k) ∧ (k = 0 ∨ p ≤ L) ∧ i = .int .i64 p ∧ Hid (Own wr w.heap.size 3 .i64 v (dl 256 z k)) ∧ Below w.heap.size w wr) (fun _ i _ => L - (intOf i).toNat)
  case atStart => exact ⟨0, q, by omega, Or.inl rfl, rfl, Lib.hid (Own.nil _ _ _ _), Below.refl _ _⟩
  case round =>
    obtain ⟨k, p, hp, hpk, rfl, hown, hb⟩ := hrel
    rename_i u5 _
    by_cases hlt : p < L
    · have HDk := HDD.out k
      rw [← hp] at HDk
      obtain ⟨g, hA, hg, hcell⟩ := HO.out.drow p hlt
      have hcw := (hb.cell (p := ⟨g, p, none⟩) hg).trans hcell
      subst hA
      have hpI : (p : Int) + 1 = ((p + 1 : Nat) : Int) := by omega
      have ha := dgt_lt (b := 256) (by omega) n p
      have hb' := dgt_lt (b := 256) (by omega) n (p + 1)
      have K2 := fun wx (hx : Below w.heap.size w wx) => rAt3_c n L (p + 1) _ _ c wx (by have := HL.out; omega) (by omega) (by omega) (HO.out.below hx (fun g e => (HO.out.lt g e).2))
      obtain ⟨x, hx⟩ : ∃ x, x = dgt 256 z k := ⟨_, rfl⟩
      rw [← hx] at HDk
      have HX := Lib.hid hx
      obtain ⟨p1, hp1⟩ : ∃ p1, p1 = p + 1 := ⟨_, rfl⟩
      rw [← hp1] at hpI hb' K2 HDk
      generalize dgt 256 n p = a at *
      generalize dgt 256 n p1 = b2 at *
      obtain ⟨S, T, HS, hw1, hw2, HT, htm, hS1, hT1, hx8⟩ := hv_int ha hb' HDk.symm
      have H2 := Lib.hid K2
      have hlen : Hid ((dl 256 z k).length + 1 ≤ 17592186044416) := Lib.hid (by rw [dl_length]; omega)
      have hwp : IntKind.i64.wrap (p1 : Int) = (p1 : Int) := IntWalk.i64_in _ (by omega)
      have HP := Lib.hid hp
      have HP1 := Lib.hid hp1
      have HLT := Lib.hid hlt
      have HNEW : Hid (((wr.alloc (.cells #[.int .i64 (x : Nat)] 3)).drew).cell? ⟨wr.heap.size, 0, none⟩ = some (.int .i64 (x : Nat))) := Lib.hid (show (wr.alloc (.cells #[.int .i64 (x : Nat)] 3)).cell? ⟨wr.heap.size, 0, none⟩ = _ from (World.cell?_alloc_at _ _ _ _ rfl).trans rfl)
      have HOWN : Hid (Own ((wr.alloc (.cells #[.int .i64 (x : Nat)] 3)).drew) w.heap.size 3 .i64 u5 (dl 256 z k)) := Lib.hid (World.ownsRow.alloc hown.out _)
      have HSZ : Hid (w.heap.size ≤ ((wr.alloc (.cells #[.int .i64 (x : Nat)] 3)).drew).heap.size) := Lib.hid (Nat.le_trans hb.size (by show wr.heap.size ≤ (wr.alloc _).heap.size; simp))
      have HBW : Hid (Below w.heap.size w ((wr.alloc (.cells #[.int .i64 (x : Nat)] 3)).drew)) := Lib.hid ((hb.alloc hb.size _).drew)
      clear HDk hx hp hp1 K2 hcell hpk hlt hn hq
      go_wp2_with fail
      go_region_law (first
        | (rw [HT.out, htm]; go_loud (refine step_app1 ((wr.alloc (.cells #[.int .i64 (x : Nat)] 3)).drew) rfl (.tmp 15) (.tmp 30) _ rfl w.heap.size 3 i0 .i64 8 Tryd.underlying57 hi0 hz0 hj1 hj2 (by omega) _ (dl 256 z k) x ⟨wr.heap.size, 0, none⟩ (by simp [Act.eval, Act.put]) (by simp [Act.eval, Act.put]) HNEW.out HOWN.out hlen.out HSZ.out ?_); intro v5 w5 hown5 hb5)
        | (go_simp; go_at_call 53; refine (H2.out _ (by first | exact hb | exact hb.drew)).mono ?_; rintro e w' ⟨rfl, rfl⟩))
      all_goals
        rw [HX.out, ← dl_succ] at hown5
        have HO5 := Lib.hid hown5
        have hbf := HBW.out.trans hb5
        clear hown5 hb5 HNEW HOWN HSZ HBW
        go_wp2_with fail
        go_roundw
        case rel => exact ⟨k + 1, p1, by have := HP.out; have := HP1.out; omega, Or.inr (by have := HLT.out; have := HP1.out; omega), by go_num, HO5, hbf⟩
        case measure =>
          have := HLT.out
          have := HP1.out
          clear hw1 hw2 htm hbq hbr hbr2 hpI
          simp [intOf]; omega
    · have HND : Hid (nd 256 z ≤ k) := Lib.hid (HNZ.out k (by omega))
      have hk9 : k ≤ 1000000000 := by omega
      obtain ⟨A5, c5, rfl, hc5⟩ := hown.out.len
      have hown5 := hown.out
      rw [dl_length] at hown5 ⊢
      have KC := Lib.hid (rCut3_c z k _ A5 c5 wr HND.out hk9 hown5)
      have HO5 := Lib.hid hown5
      clear hown5 hc5 hown hpk hp
      go_wp2_with fail
      refine KC.out.mono ?_
      rintro e w6 ⟨rfl, rfl⟩
      go_wp2_with fail
      go_ret
      exact ⟨_, _, rfl, HO5.out.cut HND.out, hb⟩
end Go.Proofs.YtkbjlijcnlkbgaaDoor
set_option linter.unusedSimpArgs false
set_option linter.unusedVariables false
namespace Nt

theorem plus_end {x y k : Nat} (hx : nd 256 x ≤ k) (hy : nd 256 y ≤ k) (hc : car 256 x y k = 0) : of 256 (dl 256 (x + y) k) = x + y := by
  have h1 := (lt_pow_iff (b := 256) (by omega) k x).2 hx
  have h2 := (lt_pow_iff (b := 256) (by omega) k y).2 hy
  rw [car_def, Nat.mod_eq_of_lt h1, Nat.mod_eq_of_lt h2] at hc
  rw [of_dl]
  exact Nat.mod_eq_of_lt ((Nat.div_eq_zero_iff_lt (Nat.pow_pos (by omega))).1 hc)
theorem car_far {x y k : Nat} (hx : nd 256 x < k) (hy : nd 256 y < k) : car 256 x y k = 0 := by
  obtain ⟨m, rfl⟩ : ∃ m, k = m + 1 := ⟨k - 1, by omega⟩
  rw [car_succ (by omega), dgt_big (b := 256) (by omega) (show nd 256 x ≤ m by omega), dgt_big (b := 256) (by omega) (show nd 256 y ≤ m by omega)]
  have := car_le (b := 256) (by omega) x y m
  omega
theorem dl_lt256 (n k : Nat) : ∀ x ∈ dl 256 n k, x < 256 := fun x hx => by
  obtain ⟨i, hi, rfl⟩ := List.getElem_of_mem hx
  rw [dl_length] at hi
  have e := dl_get? 256 n k i hi
  rw [List.getElem?_eq_getElem (by rw [dl_length]; exact hi)] at e
  rw [Option.some.inj e]
  exact dgt_lt (by omega) _ _
theorem dl_get (b n L i : Nat) (h : i < (dl b n L).length) : (dl b n L)[i] = dgt b n i := by
  have e := dl_get? b n L i (by rwa [dl_length] at h)
  rw [List.getElem?_eq_getElem h] at e
  exact Option.some.inj e
/-- A digit of a difference, by Go's steps. -/
theorem sub_step (x y k : Nat) (h : y ≤ x) :
    (dgt 256 x k < dgt 256 y k + bor 256 x y k → dgt 256 (x - y) k + dgt 256 y k + bor 256 x y k = dgt 256 x k + 256 ∧ bor 256 x y (k + 1) = 1) ∧
    (¬ dgt 256 x k < dgt 256 y k + bor 256 x y k → dgt 256 (x - y) k + dgt 256 y k + bor 256 x y k = dgt 256 x k ∧ bor 256 x y (k + 1) = 0) := by
  have h1 := dgt_sub (b := 256) (by omega) x y k h
  have h2 := bor_succ (b := 256) (by omega) x y k
  have h3 := bor_le 256 x y k
  have h4 := dgt_lt (b := 256) (by omega) x k
  have h5 := dgt_lt (b := 256) (by omega) y k
  refine ⟨fun c => ?_, fun c => ?_⟩
  · rw [if_pos c] at h2
    exact ⟨by omega, h2⟩
  · rw [if_neg c] at h2
    exact ⟨by omega, h2⟩
theorem sub_end {x y : Nat} (h : y ≤ x) : of 256 (dl 256 (x - y) (nd 256 x)) = x - y := by
  rw [of_dl]
  exact Nat.mod_eq_of_lt (Nat.lt_of_le_of_lt (Nat.sub_le _ _) (lt_nd (by omega)))
/-- The rows of a product so far: Z with what is carried. -/
def tms (x y i k Z more : Nat) : Prop := Z + 256 ^ (i + k) * more = x % 256 ^ i * y + 256 ^ i * (dgt 256 x i * (y % 256 ^ k))
theorem tms_first (x y i : Nat) : tms x y i 0 (x % 256 ^ i * y) 0 := by
  unfold tms; rw [Nat.pow_zero, Nat.mod_one, Nat.mul_zero, Nat.mul_zero, Nat.mul_zero]
theorem tms_step {x y i k Z more s : Nat} (h : tms x y i k Z more) (hs : s = more + dgt 256 Z (i + k) + dgt 256 x i * dgt 256 y k) :
    tms x y i (k + 1) (put 256 Z (i + k) (s % 256)) (s / 256) := by
  unfold tms at h ⊢
  have h1 := put_eq (b := 256) Z (i + k) (s % 256) (by omega)
  have h2 := Nat.mod_add_div s 256
  rw [mod_succ, Nat.mul_add, Nat.mul_add, show i + (k + 1) = (i + k) + 1 by omega, Nat.pow_succ]
  have h3 : 256 ^ (i + k) * s = 256 ^ (i + k) * more + 256 ^ (i + k) * dgt 256 Z (i + k) + 256 ^ (i + k) * (dgt 256 x i * dgt 256 y k) := by rw [hs, Nat.mul_add, Nat.mul_add]
  have h4 : 256 ^ (i + k) * s = 256 ^ (i + k) * (s % 256) + 256 ^ (i + k) * 256 * (s / 256) := by
    rw [Nat.mul_assoc, ← Nat.mul_add, h2]
  have h5 : 256 ^ i * (dgt 256 x i * (256 ^ k * dgt 256 y k)) = 256 ^ (i + k) * (dgt 256 x i * dgt 256 y k) := by
    rw [Nat.pow_add, Nat.mul_left_comm (dgt 256 x i), Nat.mul_assoc]
  rw [h5]
  omega
theorem tms_last {x y i k Z : Nat} (h : tms x y i k Z 0) (hk : nd 256 y ≤ k) : Z = x % 256 ^ (i + 1) * y := by
  unfold tms at h
  rw [Nat.mul_zero, Nat.add_zero, Nat.mod_eq_of_lt ((lt_pow_iff (b := 256) (by omega) k y).2 hk)] at h
  rw [h, mod_succ, Nat.add_mul, Nat.mul_assoc]
theorem tms_more {x y i k Z more : Nat} (h : tms x y i k Z more) (hk : nd 256 y ≤ k) (hm : more ≠ 0) : k ≤ nd 256 y := by
  unfold tms at h
  have hy := (lt_pow_iff (b := 256) (by omega) k y).2 hk
  rw [Nat.mod_eq_of_lt hy] at h
  have h1 : x % 256 ^ i * y + 256 ^ i * (dgt 256 x i * y) = x % 256 ^ (i + 1) * y := by rw [mod_succ, Nat.add_mul, Nat.mul_assoc]
  have h2 : x % 256 ^ (i + 1) < 256 ^ (i + 1) := Nat.mod_lt _ (Nat.pow_pos (by omega))
  have h3 : y < 256 ^ nd 256 y := lt_nd (by omega)
  have h4 : x % 256 ^ (i + 1) * y < 256 ^ (i + 1) * 256 ^ nd 256 y := Nat.mul_lt_mul'' h2 h3
  have h5 : 256 ^ (i + k) * 1 ≤ 256 ^ (i + k) * more := Nat.mul_le_mul_left _ (by omega)
  rw [← Nat.pow_add] at h4
  have h6 : 256 ^ (i + k) < 256 ^ (i + 1 + nd 256 y) := by omega
  have := (Nat.pow_lt_pow_iff_right (by omega : 1 < 256)).1 h6
  omega
theorem tms_next {more d x y : Nat} (hm : more ≤ 255) (hd : d < 256) (hx : x < 256) (hy : y < 256) : more + d + x * y ≤ 65535 ∧ (more + d + x * y) / 256 ≤ 255 ∧ x * y ≤ 65025 := by
  have h : x * y ≤ 255 * 255 := Nat.mul_le_mul (by omega) (by omega)
  omega
theorem tms_all (x y : Nat) : x % 256 ^ nd 256 x * y = x * y := by rw [Nat.mod_eq_of_lt (lt_nd (by omega))]
theorem tms_fits (x y : Nat) : of 256 (dl 256 (x * y) (nd 256 x + nd 256 y + 1)) = x * y := by
  rw [of_dl]
  refine Nat.mod_eq_of_lt ?_
  have h := Nat.mul_lt_mul'' (lt_nd (b := 256) (n := x) (by omega)) (lt_nd (b := 256) (n := y) (by omega))
  rw [← Nat.pow_add] at h
  exact Nat.lt_of_lt_of_le h (Nat.pow_le_pow_right (by omega) (by omega))
theorem two_of (n : Nat) : of 256 ((List.range (n / 8 + 1)).map fun j => if j = n / 8 then 2 ^ (n % 8) else 0) = 2 ^ n := by
  rw [List.range_succ, List.map_append, of_append]
  have h : of 256 ((List.range (n / 8)).map fun j => if j = n / 8 then 2 ^ (n % 8) else 0) = 0 := by
    have : ∀ m, m ≤ n / 8 → of 256 ((List.range m).map fun j => if j = n / 8 then 2 ^ (n % 8) else 0) = 0 := by
      intro m
      induction m with
      | zero => intro _; rfl
      | succ m ih =>
        intro hm
        rw [List.range_succ, List.map_append, of_append, ih (by omega), List.map_singleton]
        rw [show (if m = n / 8 then 2 ^ (n % 8) else 0) = 0 from if_neg (by omega)]
        simp [of_cons, of_nil]
    exact this _ (Nat.le_refl _)
  rw [h, List.length_map, List.length_range]
  simp only [List.map_cons, List.map_nil, if_true, of_cons, of_nil, Nat.mul_zero, Nat.add_zero, Nat.zero_add]
  rw [show (256 : Nat) = 2 ^ 8 by rfl, ← Nat.pow_mul, ← Nat.pow_add]
  congr 1
  omega
end Nt
set_option linter.unusedSimpArgs false
set_option linter.unusedVariables false
namespace Go.Proofs.YtkbjlijcnlkbgaaDoor
open Go Go.RowKit Nt

/-- The digits of a number, as cells. -/
def dcell3 (n L : Nat) : Array Value := fcells .i64 (dgt 256 n) L
theorem dcell3_get (n L j : Nat) (h : j < L) : (dcell3 n L)[j]? = some (.int .i64 (dgt 256 n j : Nat)) := fcells_get _ _ _ _ h
theorem dcell3_set (n L i v : Nat) (hv : v < 256) : (dcell3 n L).setIfInBounds i (.int .i64 (v : Nat)) = dcell3 (put 256 n i v) L := by
  unfold dcell3
  rw [fcells_set]
  exact fcells_congr fun j _ => (dgt_put (by omega) n i v j hv).symm
theorem dcell3_made (L : Nat) : madeCells #[.int .i64 0] L = dcell3 0 L := by
  unfold dcell3
  rw [fcells_made]
  exact fcells_congr fun j _ => by rw [dgt_def, Nat.zero_div]
theorem Own.of_fcells3 {w : World} {B g : Nat} {T : TypeId} {k : IntKind} {f : Nat → Nat} {L : Nat} (h : Blk w g T (fcells k f L)) (hB : B ≤ g) (hL : L ≤ 1000000000) :
    Own w B T k (.slice (some ⟨g, 0, none⟩) L L) ((List.range L).map f) := by
  have hlen : ((List.range L).map f).length = L := by simp
  unfold Own
  rw [hlen]
  refine ⟨by simp, Or.inr ⟨g, L, fcells k f L, rfl, hB, h, Nat.le_refl _, by unfold maxLen; omega, by rw [fcells_size, Nat.mul_one], ?_⟩⟩
  rw [fcells_list3, Nat.mul_one]
  exact List.take_of_length_le (by simp)
theorem nd_mul3 (x y : Nat) : nd 256 (x * y) ≤ nd 256 x + nd 256 y := by
  refine nd_le (by omega) ?_
  have h := Nat.mul_lt_mul'' (lt_nd (b := 256) (n := x) (by omega)) (lt_nd (b := 256) (n := y) (by omega))
  rwa [← Nat.pow_add] at h
end Go.Proofs.YtkbjlijcnlkbgaaDoor
set_option linter.unusedSimpArgs false
set_option linter.unusedVariables false
namespace Go.Proofs.YtkbjlijcnlkbgaaDoor
open Go Go.RowKit Nt

def madeF3 (n Z i j : Nat) : Nat := if n - i ≤ j then dgt 256 Z (n - 1 - j) else 0
theorem madeF3_step {n Z i x j : Nat} (h : n = i + 1 + x) (hj : j < n) : (if j = x then dgt 256 Z i else madeF3 n Z i j) = madeF3 n Z (i + 1) j := by
  unfold madeF3
  by_cases h1 : j = x
  · rw [if_pos h1, if_pos (by omega), show n - 1 - j = i by omega]
  · rw [if_neg h1]
    by_cases h2 : n - i ≤ j
    · rw [if_pos h2, if_pos (by omega)]
    · rw [if_neg h2, if_neg (by omega)]
/-- What is made of a number, and whether it may be. -/
def MkPost (g : Bool) (n : Nat) (x : Int) (w : World) (e : Ending) (w' : World) : Prop := e = .returned (.tuple #[(mkD g n x).v, .int .i64 (mkE n x)]) ∧ Below w.heap.size w w'
theorem MkPost.no {g : Bool} {n : Nat} {x : Int} (h : ¬ mkOk3 n x) {w : World} {e : Ending} {w' : World} (he : e = .returned (.tuple #[.agg #[.bool false, .string ⟨#[]⟩, .int .i64 0], .int .i64 4])) (hb : Below w.heap.size w w') : MkPost g n x w e w' := by
  unfold MkPost
  rw [mkD_no h, mkE_no h, Dy.zero_v]
  exact ⟨he, hb⟩
theorem MkPost.zero {g : Bool} {x : Int} {w : World} {e : Ending} {w' : World} (he : e = .returned (.tuple #[.agg #[.bool false, .string ⟨#[]⟩, .int .i64 0], .int .i64 0])) (hb : Below w.heap.size w w') : MkPost g 0 x w e w' := by
  unfold MkPost
  rw [mkD_zero, mkE_zero, Dy.zero_v]
  exact ⟨he, hb⟩
theorem MkPost.ok {g : Bool} {n : Nat} {x : Int} (h0 : n ≠ 0) (h : mkOk3 n x) {w : World} {e : Ending} {w' : World} (he : e = .returned (.tuple #[.agg #[.bool g, .string (natS (odN n)), .int .i64 (x + lowN n)], .int .i64 0])) (hb : Below w.heap.size w w') : MkPost g n x w e w' := by
  unfold MkPost
  rw [mkD_ok h0 h, mkE_ok h]
  exact ⟨he, hb⟩
theorem box1 {w w1 : World} {b : Obj} (hb : Below (w.alloc b).heap.size (w.alloc b) w1) : w.heap.size < w1.heap.size := by have := hb.size; simp at this; omega
theorem lowN_bits {n m : Nat} (hn : nd 256 n ≤ m) : lowN n ≤ 8 * m := by
  by_cases h0 : n = 0
  · rw [h0, lowN_zero]; omega
  · have h1 := low_lt h0 (lowN_is n)
    have h2 := (bits_le n m).2 hn
    omega
set_option maxRecDepth 100000 in
theorem rFit3_zero (g : Bool) (x : Int) (A : Option Addr) (c : Nat) (w : World) :
    Calls Tryd.prog 28 #[.bool g, .slice A 0 c, .int .i64 x] w (MkPost g 0 x w) := by
  go_enter Tryd.func28, Tryd.ntmps28
  go_wp2
  refine bodyPost_ret (v := .tuple #[.agg #[.bool false, .string ⟨#[]⟩, .int .i64 0], .int .i64 0]) (by simp [results, Tryd.results28, go_sem]) rfl (MkPost.zero rfl ?_)
  repeat (refine Below.setCell ?_ (by simp) _)
  exact (Below.refl _ _).alloc (Nat.le_refl _) _
/-- The part of fit that all its ways share. -/
theorem fit_calls (n l o B : Nat) (A : Option Addr) (c : Nat) (w : World) (b : Obj) (h0 : n ≠ 0) (hl : l = lowN n) (ho : o = odN n) (hn : nd 256 n ≤ 100000) (h : Own w B 3 .i64 (.slice A (nd 256 n) c) (dl 256 n (nd 256 n))) :
    Hid (Calls Tryd.prog 51 #[.slice A (nd 256 n) c] (w.alloc b) fun e w' => e = .returned (.int .i64 (l : Nat)) ∧ w.alloc b = w') ∧
    Hid (Calls Tryd.prog 52 #[.slice A (nd 256 n) c, .int .i64 (l : Nat)] (w.alloc b) (BigP o (w.alloc b))) ∧ l ≤ 800000 := by
  have h1 : Own (w.alloc b) B 3 .i64 (.slice A (nd 256 n) c) (dl 256 n (nd 256 n)) := World.ownsRow.alloc h _
  have hlb := lowN_bits hn
  refine ⟨Lib.hid ?_, Lib.hid ?_, by omega⟩
  · rw [hl]; exact rLow3_c n (lowN n) (nd 256 n) B A c _ h0 (lowN_is n) (Nat.le_refl _) (by omega) h1
  · have := rHalved3_c n (l / 8) (l % 8) B A c _ (by omega) (by omega) (by omega) h1
    rw [show 8 * (l / 8) + l % 8 = l by omega] at this
    rw [ho]
    unfold odN
    rw [← hl]; exact this
set_option maxRecDepth 100000 in
set_option maxHeartbeats 1000000 in
theorem rFit3_no (g : Bool) (n : Nat) (x : Int) (B : Nat) (A : Option Addr) (c : Nat) (w : World) (h0 : n ≠ 0) (hno : ¬ mkOk3 n x) (hn : nd 256 n ≤ 100000) (hx : -9223372036854775808 ≤ x ∧ x ≤ 9223372036854775807) (h : Own w B 3 .i64 (.slice A (nd 256 n) c) (dl 256 n (nd 256 n))) :
    Calls Tryd.prog 28 #[.bool g, .slice A (nd 256 n) c, .int .i64 x] w (MkPost g n x w) := by
  obtain ⟨l, hl⟩ : ∃ l, l = lowN n := ⟨_, rfl⟩
  obtain ⟨o, ho⟩ : ∃ o, o = odN n := ⟨_, rfl⟩
  obtain ⟨L, hL⟩ : ∃ L, L = nd 256 n := ⟨_, rfl⟩
  have hc := fun b => fit_calls n l o B A c w b h0 hl ho hn h
  have hz : ((nd 256 n : Nat) : Int) ≠ 0 := by
    have : nd 256 n ≠ 0 := fun c => h0 ((nd_eq_zero (by omega)).1 c)
    omega
  have hz2 : (((nd 256 n : Nat) : Int) == 0) = false := by rw [beq_eq_false_iff_ne]; exact hz
  have hlb := (hc (.cells #[] 0)).2.2
  have hcase : 1048576 < x ∨ (¬ 1048576 < x ∧ x < -4194304) ∨ (¬ 1048576 < x ∧ ¬ x < -4194304 ∧ 1048576 < x + (l : Int)) ∨ (¬ 1048576 < x ∧ ¬ x < -4194304 ∧ ¬ 1048576 < x + (l : Int) ∧ x + (l : Int) < -1048576) ∨ (¬ 1048576 < x ∧ ¬ x < -4194304 ∧ ¬ 1048576 < x + (l : Int) ∧ ¬ x + (l : Int) < -1048576 ∧ 16384 < nd 256 o) := by
    unfold mkOk3 fits at hno
    rw [← hl, ← ho] at hno
    by_cases c1 : 1048576 < x
    · exact Or.inl c1
    by_cases c2 : x < -4194304
    · exact Or.inr (Or.inl ⟨c1, c2⟩)
    by_cases c3 : 1048576 < x + (l : Int)
    · exact Or.inr (Or.inr (Or.inl ⟨c1, c2, c3⟩))
    by_cases c4 : x + (l : Int) < -1048576
    · exact Or.inr (Or.inr (Or.inr (Or.inl ⟨c1, c2, c3, c4⟩)))
    by_cases c5 : 16384 < nd 256 o
    · exact Or.inr (Or.inr (Or.inr (Or.inr ⟨c1, c2, c3, c4, c5⟩)))
    · exact absurd (Or.inr ⟨by omega, by omega, by omega⟩) hno
  rw [← hL] at hz hz2 hc ⊢
  have HNO := Lib.hid hno
  have HC := Lib.hid (fun b => (hc b).1)
  have HH := Lib.hid (fun b => (hc b).2.1)
  clear hno hc hL hl ho h h0 hn
  rcases hcase with c1 | ⟨c1, c2⟩ | ⟨c1, c2, c3⟩ | ⟨c1, c2, c3, c4⟩ | ⟨c1, c2, c3, c4, c5⟩
  all_goals
    go_enter Tryd.func28, Tryd.ntmps28
    go_wp2_with (first
      | (go_at_call 51; refine ((HC.out _).out).mono ?_; rintro e w1 ⟨rfl, rfl⟩)
      | (go_at_call 52; refine ((HH.out _).out).mono ?_; rintro e w2 ⟨A5, c5, rfl, hown, hb⟩; obtain ⟨hcl, hfz⟩ := bcell hb; have hsz := box1 hb; clear hown))
    refine bodyPost_ret (v := .tuple #[.agg #[.bool false, .string ⟨#[]⟩, .int .i64 0], .int .i64 4]) (by simp [results, Tryd.results28, go_sem, hcl, hsz]) rfl (MkPost.no HNO.out rfl ?_)
    repeat (refine Below.setCell ?_ (by simp) _)
    exact box_below hb
end Go.Proofs.YtkbjlijcnlkbgaaDoor
set_option linter.unusedSimpArgs false
set_option linter.unusedVariables false
namespace Go.Proofs.YtkbjlijcnlkbgaaDoor
open Go Go.RowKit Nt

set_option maxRecDepth 100000 in
set_option maxHeartbeats 1000000 in
theorem rFit3_ok (g : Bool) (n : Nat) (x : Int) (B : Nat) (A : Option Addr) (c : Nat) (w : World) (h0 : n ≠ 0) (hok : mkOk3 n x) (hn : nd 256 n ≤ 100000) (h : Own w B 3 .i64 (.slice A (nd 256 n) c) (dl 256 n (nd 256 n))) :
    Calls Tryd.prog 28 #[.bool g, .slice A (nd 256 n) c, .int .i64 x] w (MkPost g n x w) := by
  obtain ⟨i0, hi0, hz0, hz1, hz2⟩ := info_parts (P := Tryd.prog) (e := 5) (z := .int .u8 0) (size := 1) (bytes := 1) (by kernel_rfl)
  obtain ⟨l, hl⟩ : ∃ l, l = lowN n := ⟨_, rfl⟩
  obtain ⟨o, ho⟩ : ∃ o, o = odN n := ⟨_, rfl⟩
  obtain ⟨L, hL⟩ : ∃ L, L = nd 256 n := ⟨_, rfl⟩
  have hc := fun b => fit_calls n l o B A c w b h0 hl ho hn h
  have hzz : ((nd 256 n : Nat) : Int) ≠ 0 := by
    have : nd 256 n ≠ 0 := fun c => h0 ((nd_eq_zero (by omega)).1 c)
    omega
  have hzz2 : (((nd 256 n : Nat) : Int) == 0) = false := by rw [beq_eq_false_iff_ne]; exact hzz
  have hlb := (hc (.cells #[] 0)).2.2
  have hcase : ¬ 1048576 < x ∧ ¬ x < -4194304 ∧ ¬ 1048576 < x + (l : Int) ∧ ¬ x + (l : Int) < -1048576 ∧ nd 256 o ≤ 16384 := by
    have hk := hok
    unfold mkOk3 fits at hk
    rw [← hl, ← ho] at hk
    rcases hk with hk | ⟨hk1, hk2, hk3⟩
    · exact absurd hk h0
    · exact ⟨by omega, by omega, by omega, by omega, hk1⟩
  have HOK := Lib.hid (fun (w' : World) (e : Ending) => @MkPost.ok g n x h0 hok w e w')
  rw [← hl, ← ho] at HOK
  rw [← hL] at hzz hzz2 hc ⊢
  have HC := Lib.hid (fun b => (hc b).1)
  have HH := Lib.hid (fun b => (hc b).2.1)
  obtain ⟨K, hK⟩ : ∃ K, K = nd 256 o := ⟨_, rfl⟩
  obtain ⟨c1, c2, c3, c4, c5⟩ := hcase
  rw [← hK] at c5
  have c6 : ¬ (16384 : Int) < (K : Int) := by omega
  have HK := Lib.hid hK
  have hHH : Hid (∀ b, Calls Tryd.prog 52 #[.slice A L c, .int .i64 (l : Nat)] (w.alloc b) fun e w' => ∃ A5 c5, e = .returned (.slice A5 K c5) ∧ DRow w' A5 o K ∧ Below (w.alloc b).heap.size (w.alloc b) w') := Lib.hid fun b => ((HH.out b).out).mono fun e w' ⟨A5, c5, e1, e2, e3⟩ => ⟨A5, c5, by rw [HK.out]; exact e1, by rw [HK.out]; exact e2.drow, e3⟩
  have hcf : Hid (∀ wr g, Blk wr g 5 (fcells .u8 (madeF3 K o K) K) → (convert 79 23 (.slice (some ⟨g, 0, none⟩) K K)).run Tryd.prog wr = .ok (.string (natS o)) wr) := Lib.hid fun wr g hblk => by
    have hN := HK.out
    have hl : ((dl 256 o (nd 256 o)).reverse.map UInt8.ofNat).length = K := by simp [dl_length, hN]
    have h := run_convert_bytes_back (P := Tryd.prog) wr 79 23 5 ⟨g, 0, none⟩ K ((dl 256 o (nd 256 o)).reverse.map UInt8.ofNat) Tryd.underlying79 Tryd.underlying5 Tryd.underlying23 (fun j hj => by
      have hj2 : j < K := by rw [← hl]; exact hj
      rw [add_plain0, hblk.cell, fcells_get _ _ _ _ hj2]
      have e := natS_get o j (by rw [natS_size, ← hN]; exact hj2)
      rw [ba_get] at e
      simp only [natS_def] at e
      rw [List.getElem_toArray] at e
      rw [e]
      unfold madeF3
      rw [if_pos (by omega), hN])
    rw [hl, ← natS_def] at h
    exact h
  clear hc hL hl ho h h0 hn hok HH hK
  go_enter Tryd.func28, Tryd.ntmps28
  go_wp2_with fail
  refine ((HC.out _).out).mono ?_
  rintro e w1 ⟨rfl, rfl⟩
  go_wp2_with fail
  refine (hHH.out _).mono ?_
  rintro e w1 ⟨A5, c5, rfl, hrow, hb0⟩
  have HROW := Lib.hid hrow
  have hb00 := box_below hb0
  have hszb := box1 hb0
  obtain ⟨hcl0, hfz0⟩ := bcell hb0
  have HB0 := Lib.hid hb0
  clear hrow hb0
  go_wp2_with (at_make; go_loud (refine wpList_make_zero _ rfl _ _ _ rfl 5 i0 _ Tryd.underlying79 hi0 hz0 hz1 .i64 .i64 _ _ K rfl rfl rfl rfl (by rw [hz2]; omega) (by unfold maxLen; omega) ?_))
  rw [fcells_made]
  have HBK := Lib.hid (Blk.new w1 5 (fcells .u8 (fun _ => 0) K))
  have hbl : Below w1.heap.size w1 (w1.alloc (.cells (fcells .u8 (fun _ => 0) K) 5)) := (Below.refl _ _).alloc (Nat.le_refl _) _
  generalize w1.alloc (.cells (fcells .u8 (fun _ => 0) K) 5) = w2 at *
  obtain ⟨gg, hg⟩ : ∃ gg, gg = w1.heap.size := ⟨_, rfl⟩
  rw [← hg] at HBK hbl ⊢
  have HG := Lib.hid hg
  clear hg hcl0 hfz0
  go_loopw [10] (fun i wr => ∃ q : Nat, q ≤ K ∧ i = .int .i64 q ∧ Hid (Blk wr gg 5 (fcells .u8 (madeF3 K o q) K)) ∧ Below gg w1 wr) (fun i _ => K - (intOf i).toNat)
  case atStart => exact ⟨0, Nat.zero_le _, rfl, by rw [fcells_congr (f' := fun _ => 0) (fun j hj => by unfold madeF3; rw [if_neg (by omega)])]; exact HBK, hbl⟩
  case round =>
    obtain ⟨q, hq, rfl, hblk, hb⟩ := hrel
    by_cases hlt : q < K
    · obtain ⟨y, hy⟩ : ∃ y, K = q + 1 + y := ⟨K - q - 1, by omega⟩
      obtain ⟨gb, hA, hgb, hcb⟩ := HROW.out q (by omega)
      have hcb2 := (hb.cell (p := ⟨gb, q, none⟩) (by have := HG.out; show gb < gg; omega)).trans hcb
      cases hA
      have hfz := hblk.out.frozen y
      have hck := hblk.out.cell y
      rw [fcells_get _ _ _ _ (by omega)] at hck
      have hxI : (K : Int) - 1 - (q : Int) = (y : Int) := by omega
      have hd := dgt_lt (b := 256) (by omega) o q
      have hwr : IntKind.u8.wrap ((dgt 256 o q : Nat) : Int) = ((dgt 256 o q : Nat) : Int) := by rw [wrap_u8, Nat.mod_eq_of_lt hd]
      have HX := Lib.hid hy
      clear hy hcb
      go_wp2
      have HB1 := Lib.hid (hblk.out.set_ y (.int .u8 ((dgt 256 o q : Nat) : Int)))
      rw [fcells_set, fcells_congr (f' := madeF3 K o (q + 1)) (fun j hj => madeF3_step HX.out hj)] at HB1
      have hb1 := hb.setCell (p := ⟨gg, y, none⟩) (Nat.le_refl _) (.int .u8 ((dgt 256 o q : Nat) : Int))
      go_roundw
      case rel => exact ⟨q + 1, by omega, by go_num, HB1, hb1⟩
      case measure => simp [intOf]; omega
    · obtain rfl : q = K := by omega
      have hcv := hcf.out wr gg hblk.out
      have hbt := HB0.out.trans (hb.mono (by have := HG.out; have := HB0.out.size; omega))
      obtain ⟨hcl, hfz⟩ := bcell hbt
      have hsz := box1 hbt
      have hw3 : wrap64 (x + (l : Int)) = x + (l : Int) := IntWalk.wrap64_in _ (by omega)
      have hbe := box_below hbt
      clear hb hblk
      go_wp2
      refine bodyPost_ret (v := .tuple #[.agg #[.bool g, .string (natS o), .int .i64 (x + l)], .int .i64 0]) (by simp [results, Tryd.results28, go_sem, hcl, hsz]) rfl (HOK.out _ _ rfl ?_)
      repeat (refine Below.setCell ?_ (by simp) _)
      exact hbe
end Go.Proofs.YtkbjlijcnlkbgaaDoor
set_option linter.unusedSimpArgs false
set_option linter.unusedVariables false
namespace Go.Proofs.YtkbjlijcnlkbgaaDoor
open Go Go.RowKit Nt

def madeF (n Z i j : Nat) : Nat := if n - i ≤ j then dgt 256 Z (n - 1 - j) else 0
theorem madeF_step {n Z i x j : Nat} (h : n = i + 1 + x) (hj : j < n) : (if j = x then dgt 256 Z i else madeF n Z i j) = madeF n Z (i + 1) j := by
  unfold madeF
  by_cases h1 : j = x
  · rw [if_pos h1, if_pos (by omega), show n - 1 - j = i by omega]
  · rw [if_neg h1]
    by_cases h2 : n - i ≤ j
    · rw [if_pos h2, if_pos (by omega)]
    · rw [if_neg h2, if_neg (by omega)]
theorem digit_of {l : List Nat} (hl : ∀ x ∈ l, x < 256) {j : Nat} (h : j < l.length) : dgt 256 (of 256 l) j = l[j] := dgt_of (by omega) l hl j h
end Go.Proofs.YtkbjlijcnlkbgaaDoor
set_option linter.unusedSimpArgs false
set_option linter.unusedVariables false
namespace Go.Proofs.YtkbjlijcnlkbgaaDoor
open Go Go.RowKit Nt

theorem dl_lt (n k : Nat) : ∀ x ∈ dl 256 n k, x < 256 := fun x hx => by
  obtain ⟨i, hi, rfl⟩ := List.getElem_of_mem hx
  rw [dl_length] at hi
  have e := dl_get? 256 n k i hi
  rw [List.getElem?_eq_getElem (by rw [dl_length]; exact hi)] at e
  rw [Option.some.inj e]
  exact dgt_lt (by omega) _ _
end Go.Proofs.YtkbjlijcnlkbgaaDoor
set_option linter.unusedSimpArgs false
set_option linter.unusedVariables false
namespace Go.Proofs.YtkbjlijcnlkbgaaDoor
open Go Go.RowKit Nt

theorem rFit3_c (g : Bool) (n : Nat) (x : Int) (B : Nat) (A : Option Addr) (c : Nat) (w : World) (hn : nd 256 n ≤ 100000) (hx : -9223372036854775808 ≤ x ∧ x ≤ 9223372036854775807) (h : Own w B 3 .i64 (.slice A (nd 256 n) c) (dl 256 n (nd 256 n))) :
    Calls Tryd.prog 28 #[.bool g, .slice A (nd 256 n) c, .int .i64 x] w (MkPost g n x w) := by
  by_cases h0 : n = 0
  · subst h0
    rw [nd_zero]
    exact rFit3_zero g x A c w
  · by_cases hk : mkOk3 n x
    · exact rFit3_ok g n x B A c w h0 hk hn h
    · exact rFit3_no g n x B A c w h0 hk hn hx h
end Go.Proofs.YtkbjlijcnlkbgaaDoor
set_option linter.unusedSimpArgs false
set_option linter.unusedVariables false
namespace Go.Proofs.YtkbjlijcnlkbgaaDoor
open Go Go.RowKit Nt

set_option maxRecDepth 100000 in
theorem DMake_bad (g : Bool) (s : ByteArray) (x : Int) (w : World) (h : ¬ May s) :
    Calls Tryd.prog 22 #[.bool g, .string s, .int .i64 x] w fun e w' => e = .returned (.tuple #[.agg #[.bool false, .string ⟨#[]⟩, .int .i64 0], .int .i64 2]) ∧ Below w.heap.size w w' := by
  have H := Lib.hid h
  clear h
  go_enter Tryd.func22, Tryd.ntmps22
  go_wp2_with (go_at_call 43; refine (NLow_no _ _ H.out).mono ?_; rintro e w1 ⟨rfl, hb⟩; obtain ⟨hcl, hfz⟩ := bcell hb; have hsz := box1 hb)
  refine bodyPost_ret (v := .tuple #[.agg #[.bool false, .string ⟨#[]⟩, .int .i64 0], .int .i64 2]) (by simp [results, Tryd.results22, go_sem, hcl, hsz]) rfl ⟨rfl, ?_⟩
  repeat (refine Below.setCell ?_ (by simp) _)
  exact box_below hb
set_option maxRecDepth 100000 in
theorem DMake_zero (g : Bool) (x : Int) (w : World) :
    Calls Tryd.prog 22 #[.bool g, .string (natS 0), .int .i64 x] w (MkPost g 0 x w) := by
  have K := Lib.hid (fun w => NLow_c 0 0 w fits_zero ⟨fun _ => rfl, fun c => absurd rfl c⟩)
  rw [natS_zero] at K ⊢
  go_enter Tryd.func22, Tryd.ntmps22
  go_wp2_with (go_at_call 43; refine (K.out _).mono ?_; rintro e w1 ⟨rfl, hb⟩; obtain ⟨hcl, hfz⟩ := bcell hb; have hsz := box1 hb)
  refine bodyPost_ret (v := .tuple #[.agg #[.bool false, .string ⟨#[]⟩, .int .i64 0], .int .i64 0]) (by simp [results, Tryd.results22, go_sem, hcl, hsz]) rfl (MkPost.zero rfl ?_)
  repeat (refine Below.setCell ?_ (by simp) _)
  exact box_below hb
set_option maxRecDepth 100000 in
set_option maxHeartbeats 1000000 in
theorem DMake_no (g : Bool) (n : Nat) (x : Int) (w : World) (hf : fits n) (h0 : n ≠ 0) (hno : ¬ mkOk3 n x) (hx : -9223372036854775808 ≤ x ∧ x ≤ 9223372036854775807) :
    Calls Tryd.prog 22 #[.bool g, .string (natS n), .int .i64 x] w (MkPost g n x w) := by
  obtain ⟨l, hl⟩ : ∃ l, l = lowN n := ⟨_, rfl⟩
  have hll := low_lt h0 (lowN_is n)
  have hbb := bits_131072' hf
  have K := Lib.hid (fun w => NLow_c n l w hf (hl ▸ lowN_is n))
  have hE := natS_full h0
  have hE2 := natS_full2 h0
  have hlb : l ≤ 131072 := by omega
  have hcase : 1048576 < x ∨ (¬ 1048576 < x ∧ x < -1179648) ∨ (¬ 1048576 < x ∧ ¬ x < -1179648 ∧ 1048576 < x + (l : Int)) ∨ (¬ 1048576 < x ∧ ¬ x < -1179648 ∧ ¬ 1048576 < x + (l : Int) ∧ x + (l : Int) < -1048576) := by
    have ho : fits (odN n) := by unfold fits at *; exact Nat.le_trans (nd_mono (by omega) (odN_le n)) hf
    unfold mkOk3 at hno
    rw [← hl] at hno
    by_cases c1 : 1048576 < x
    · exact Or.inl c1
    by_cases c2 : x < -1179648
    · exact Or.inr (Or.inl ⟨c1, c2⟩)
    by_cases c3 : 1048576 < x + (l : Int)
    · exact Or.inr (Or.inr (Or.inl ⟨c1, c2, c3⟩))
    by_cases c4 : x + (l : Int) < -1048576
    · exact Or.inr (Or.inr (Or.inr ⟨c1, c2, c3, c4⟩))
    · exact absurd (Or.inr ⟨ho, by omega, by omega⟩) hno
  have HNO := Lib.hid hno
  clear hno hl hll hbb hf h0
  rcases hcase with c1 | ⟨c1, c2⟩ | ⟨c1, c2, c3⟩ | ⟨c1, c2, c3, c4⟩
  all_goals
    go_enter Tryd.func22, Tryd.ntmps22
    go_wp2_with (go_at_call 43; refine (K.out _).mono ?_; rintro e w1 ⟨rfl, hb⟩; obtain ⟨hcl, hfz⟩ := bcell hb; have hsz := box1 hb)
    refine bodyPost_ret (v := .tuple #[.agg #[.bool false, .string ⟨#[]⟩, .int .i64 0], .int .i64 4]) (by simp [results, Tryd.results22, go_sem, hcl, hsz]) rfl (MkPost.no HNO.out rfl ?_)
    repeat (refine Below.setCell ?_ (by simp) _)
    exact box_below hb
set_option maxRecDepth 100000 in
set_option maxHeartbeats 1000000 in
theorem DMake_ok (g : Bool) (n : Nat) (x : Int) (w : World) (hf : fits n) (h0 : n ≠ 0) (hok : mkOk3 n x) :
    Calls Tryd.prog 22 #[.bool g, .string (natS n), .int .i64 x] w (MkPost g n x w) := by
  obtain ⟨l, hl⟩ : ∃ l, l = lowN n := ⟨_, rfl⟩
  obtain ⟨o, ho⟩ : ∃ o, o = odN n := ⟨_, rfl⟩
  have hll := low_lt h0 (lowN_is n)
  rw [← hl] at hll
  have hbb := bits_131072' hf
  have K := Lib.hid (fun w => NLow_c n l w hf (hl ▸ lowN_is n))
  have KS : Hid (0 < l → ∀ w, Calls Tryd.prog 44 #[.string (natS n), .int .i64 (-(l : Int))] w (StrPost (natS o) 0 w)) := Lib.hid fun hl0 w => by
    have := NShift_down n l w hf h0 hl0 hll
    rw [hl] at this ⊢
    rw [ho]; exact this
  have hE := natS_full h0
  have hE2 := natS_full2 h0
  have hlb : l ≤ 131072 := by omega
  have hcase : ¬ 1048576 < x ∧ ¬ x < -1179648 ∧ ¬ 1048576 < x + (l : Int) ∧ ¬ x + (l : Int) < -1048576 := by
    have hk := hok
    unfold mkOk3 at hk
    rw [← hl] at hk
    rcases hk with hk | ⟨hk1, hk2, hk3⟩
    · exact absurd hk h0
    · exact ⟨by omega, by omega, by omega, by omega⟩
  have HOK := Lib.hid (fun (w' : World) (e : Ending) => @MkPost.ok g n x h0 hok w e w')
  rw [← hl, ← ho] at HOK
  have hon : l = 0 → o = n := fun c => by rw [ho]; unfold odN; rw [← hl, c, Nat.pow_zero, Nat.div_one]
  obtain ⟨c1, c2, c3, c4⟩ := hcase
  have HON := Lib.hid hon
  clear hok hl ho hll hbb hf h0 hon
  rcases Nat.eq_zero_or_pos l with hz | hz
  · subst hz
    obtain rfl := HON.out rfl
    go_enter Tryd.func22, Tryd.ntmps22
    go_wp2_with (go_at_call 43; refine (K.out _).mono ?_; rintro e w1 ⟨rfl, hb⟩; obtain ⟨hcl, hfz⟩ := bcell hb; have hsz := box1 hb)
    refine bodyPost_ret (v := .tuple #[.agg #[.bool g, .string (natS o), .int .i64 (x + ((0 : Nat) : Int))], .int .i64 0]) (by simp [results, Tryd.results22, go_sem, hcl, hsz]) rfl (HOK.out _ _ rfl ?_)
    repeat (refine Below.setCell ?_ (by simp) _)
    exact box_below hb
  · go_enter Tryd.func22, Tryd.ntmps22
    go_wp2_with (first
      | (go_at_call 43; refine (K.out _).mono ?_; rintro e w1 ⟨rfl, hb⟩)
      | (go_at_call 44; refine (KS.out hz _).mono ?_; rintro e w2 ⟨rfl, hb2⟩; have hb12 := hb.trans (hb2.mono hb.size); obtain ⟨hcl, hfz⟩ := bcell hb12; have hsz := box1 hb12))
    refine bodyPost_ret (v := .tuple #[.agg #[.bool g, .string (natS o), .int .i64 (x + (l : Int))], .int .i64 0]) (by simp [results, Tryd.results22, go_sem, hcl, hsz]) rfl (HOK.out _ _ rfl ?_)
    repeat (refine Below.setCell ?_ (by simp) _)
    exact box_below hb12
theorem DMake_c (g : Bool) (n : Nat) (x : Int) (w : World) (hf : fits n) (hx : -9223372036854775808 ≤ x ∧ x ≤ 9223372036854775807) :
    Calls Tryd.prog 22 #[.bool g, .string (natS n), .int .i64 x] w (MkPost g n x w) := by
  by_cases h0 : n = 0
  · subst h0; exact DMake_zero g x w
  · by_cases hk : mkOk3 n x
    · exact DMake_ok g n x w hf h0 hk
    · exact DMake_no g n x w hf h0 hk hx
end Go.Proofs.YtkbjlijcnlkbgaaDoor
set_option linter.unusedSimpArgs false
set_option linter.unusedVariables false
namespace Go.Proofs.YtkbjlijcnlkbgaaDoor
open Go Go.RowKit Nt

theorem abs_fits {m : Nat} (h : m < 18446744073709551616) : fits m := by have := br_lt.2 h; unfold fits; omega
theorem neg_words {z : Int} (h1 : -9223372036854775808 ≤ z) (h2 : z < 0) : IntKind.u64.wrap z = z + 18446744073709551616 ∧ IntKind.u64.wrap (-(z + 18446744073709551616)) = (z.natAbs : Int) := by
  rw [IntKind.wrap_u64, IntKind.wrap_u64]; omega
theorem pos_words {z : Int} (h1 : z ≤ 9223372036854775807) (h2 : ¬ z < 0) : IntKind.u64.wrap z = (z.natAbs : Int) := by
  rw [IntKind.wrap_u64]; omega
set_option maxRecDepth 100000 in
set_option maxHeartbeats 1000000 in
theorem DOf_c (z x : Int) (w : World) (hz : -9223372036854775808 ≤ z ∧ z ≤ 9223372036854775807) (hx : -9223372036854775808 ≤ x ∧ x ≤ 9223372036854775807) :
    Calls Tryd.prog 11 #[.int .i64 z, .int .i64 x] w (MkPost (decide (z < 0)) z.natAbs x w) := by
  obtain ⟨m, hm⟩ : ∃ m, m = z.natAbs := ⟨_, rfl⟩
  have hmb : m < 18446744073709551616 := by omega
  have KO := Lib.hid (fun w => Of_n m w hmb)
  have KM := Lib.hid (fun g w => DMake_c g m x w (abs_fits hmb) hx)
  rw [← hm]
  by_cases h0 : z < 0
  · obtain ⟨e1, e2⟩ := neg_words hz.1 h0
    rw [← hm] at e2
    have hd : decide (z < 0) = true := decide_eq_true h0
    rw [hd]
    clear hm hmb hx hz
    go_enter Tryd.func11, Tryd.ntmps11
    go_wp2_with (first
      | (go_at_call 23; refine (KO.out _).mono ?_; rintro e w1 ⟨rfl, hb⟩)
      | (go_at_call 22; refine (KM.out _ _).mono ?_; rintro e w2 ⟨rfl, hb2⟩; have hb12 := hb.trans (hb2.mono hb.size); obtain ⟨hcl, hfz⟩ := bcell hb12; have hsz := box1 hb12; unfold Dy.v))
    refine bodyPost_ret (v := .tuple #[(mkD true m x).v, .int .i64 (mkE m x)]) (by simp [results, Tryd.results11, go_sem, hcl, hsz, Dy.v]) rfl ⟨rfl, ?_⟩
    repeat (refine Below.setCell ?_ (by simp) _)
    exact box_below hb12
  · have e1 := pos_words hz.2 h0
    rw [← hm] at e1
    have hd : decide (z < 0) = false := decide_eq_false h0
    rw [hd]
    clear hm hmb hx hz
    go_enter Tryd.func11, Tryd.ntmps11
    go_wp2_with (first
      | (go_at_call 23; refine (KO.out _).mono ?_; rintro e w1 ⟨rfl, hb⟩)
      | (go_at_call 22; refine (KM.out _ _).mono ?_; rintro e w2 ⟨rfl, hb2⟩; have hb12 := hb.trans (hb2.mono hb.size); obtain ⟨hcl, hfz⟩ := bcell hb12; have hsz := box1 hb12; unfold Dy.v))
    refine bodyPost_ret (v := .tuple #[(mkD false m x).v, .int .i64 (mkE m x)]) (by simp [results, Tryd.results11, go_sem, hcl, hsz, Dy.v]) rfl ⟨rfl, ?_⟩
    repeat (refine Below.setCell ?_ (by simp) _)
    exact box_below hb12
end Go.Proofs.YtkbjlijcnlkbgaaDoor
set_option linter.unusedSimpArgs false
set_option linter.unusedVariables false
namespace Go.Proofs.YtkbjlijcnlkbgaaDoor
open Go Go.RowKit Nt

/-- Any value of the type Dyad. -/
structure Dt where
  g : Bool
  s : ByteArray
  x : Int
def Dt.v (t : Dt) : Value := .agg #[.bool t.g, .string t.s, .int .i64 t.x]
def Dt.Ok (t : Dt) : Prop := DOk t.g t.s t.x
theorem Dt.small {t : Dt} (h : t.Ok) : t.s.size ≤ 16384 := by
  rcases h with ⟨h, _⟩ | ⟨n, hf, _, h, _⟩
  · rw [h]; decide
  · rw [h, natS_size]; exact hf
open Classical in
@[irreducible] noncomputable def dE (l : List Dt) : Int := if ∀ t ∈ l, t.Ok then 0 else 2
theorem dE_ok {l : List Dt} (h : ∀ t ∈ l, t.Ok) : dE l = 0 := by unfold dE; rw [if_pos h]
theorem dE_no {l : List Dt} {t : Dt} (h : t ∈ l) (hn : ¬ t.Ok) : dE l = 2 := by unfold dE; rw [if_neg (fun c => hn (c t h))]
theorem DCheck_c (t : Dt) (w : World) (hs : t.s.size ≤ 9223372036854775807) : Calls Tryd.prog 14 #[.agg #[.bool t.g, .string t.s, .int .i64 t.x]] w fun e w' => e = .returned (.int .i64 (dE [t])) ∧ Below w.heap.size w w' := by
  by_cases h : t.Ok
  · rw [dE_ok (fun u hu => by rw [List.mem_singleton.1 hu]; exact h)]
    rcases h with ⟨e1, e2, e3⟩ | ⟨n, hf, ho, e1, h1, h2⟩
    · rw [e1, e2, e3]; exact DCheck_zero w
    · rw [e1]; exact DCheck_num t.g n t.x w hf ho h1 h2
  · rw [dE_no (List.mem_singleton.2 rfl) h]
    exact DCheck_bad t.g t.s t.x w hs h
/-- A row of Dyads. -/
def Dts (w : World) (A : Option Addr) (l : List Dt) : Prop := 0 < l.length → ∃ ad, A = some ad ∧ ad.block < w.heap.size ∧ ∀ j (h : j < l.length), w.cell? (ad.add (j * 3)) = some (.bool l[j].g) ∧ w.cell? ⟨(ad.add (j * 3)).block, (ad.add (j * 3)).off + 1, none⟩ = some (.string l[j].s) ∧ w.cell? ⟨(ad.add (j * 3)).block, (ad.add (j * 3)).off + 2, none⟩ = some (.int .i64 l[j].x)
theorem Dts.below {w w' : World} {A : Option Addr} {l : List Dt} (h : Dts w A l) (hb : Below w.heap.size w w') : Dts w' A l := fun h0 => by
  obtain ⟨ad, e, hl, hc⟩ := h h0
  refine ⟨ad, e, Nat.lt_of_lt_of_le hl hb.size, fun j hj => ?_⟩
  obtain ⟨c1, c2, c3⟩ := hc j hj
  exact ⟨(hb.cell (p := ad.add (j * 3)) (by rw [block_of_add']; exact hl)).trans c1, (hb.cell (p := ⟨(ad.add (j * 3)).block, (ad.add (j * 3)).off + 1, none⟩) (by show (ad.add (j * 3)).block < _; rw [block_of_add']; exact hl)).trans c2, (hb.cell (p := ⟨(ad.add (j * 3)).block, (ad.add (j * 3)).off + 2, none⟩) (by show (ad.add (j * 3)).block < _; rw [block_of_add']; exact hl)).trans c3⟩
set_option maxRecDepth 100000 in
set_option maxHeartbeats 1000000 in
theorem Dall_c (A : Option Addr) (c : Nat) (l : List Dt) (w : World) (hl : l.length ≤ 9223372036854775807) (hs : ∀ t ∈ l, t.s.size ≤ 9223372036854775807) (h : Dts w A l) :
    Calls Tryd.prog 9 #[.slice A l.length c] w fun e w' => e = .returned (.int .i64 (dE l)) ∧ Below w.heap.size w w' := by
  have HD := Lib.hid h
  have HS := Lib.hid hs
  clear h hs
  go_enter Tryd.func9, Tryd.ntmps9
  go_wp2
  go_loopw [8] (fun i wr => ∃ k : Nat, k ≤ l.length ∧ i = .int .i64 k ∧ Hid (∀ j (h : j < l.length), j < k → l[j].Ok) ∧ Below w.heap.size w wr) (fun i _ => l.length - (intOf i).toNat)
  case atStart => exact ⟨0, Nat.zero_le _, rfl, Lib.hid (fun j _ h => by omega), Below.refl _ _⟩
  case round =>
    obtain ⟨k, hk, rfl, hok, hb⟩ := hrel
    by_cases hlt : k < l.length
    · obtain ⟨ad, rfl, hadb, hc⟩ := (HD.out.below hb) (by omega)
      obtain ⟨c1, c2, c3⟩ := hc k hlt
      have K := Lib.hid (fun w => DCheck_c l[k] w (HS.out _ (List.getElem_mem hlt)))
      by_cases hok1 : l[k].Ok
      · have e0 := dE_ok (l := [l[k]]) (fun u hu => by rw [List.mem_singleton.1 hu]; exact hok1)
        rw [e0] at K
        have HOK := Lib.hid (show ∀ j (h : j < l.length), j < k + 1 → l[j].Ok from fun j hj h2 => by
          rcases Nat.lt_or_ge j k with h3 | h3
          · exact hok.out j hj h3
          · obtain rfl : j = k := by omega
            exact hok1)
        clear e0 hok1 hc
        go_wp2_with fail
        refine (K.out _).mono ?_
        rintro e w2 ⟨rfl, hb2⟩
        have hb3 := below_chain hb (box_below hb2)
        clear hb2
        go_wp2_with fail
        go_roundw
        case rel => exact ⟨k + 1, by omega, by go_num, HOK, hb3⟩
        case measure => simp [intOf]; omega
      · have e0 := dE_no (l := [l[k]]) (List.mem_singleton.2 rfl) hok1
        have e1 := dE_no (l := l) (List.getElem_mem hlt) hok1
        rw [e0] at K
        have HE := Lib.hid e1
        clear e0 e1 hok1 hc
        go_wp2_with fail
        refine (K.out _).mono ?_
        rintro e w2 ⟨rfl, hb2⟩
        have hb3 := below_chain hb (box_below hb2)
        clear hb2
        go_wp2_with fail
        go_ret
        exact ⟨by rw [HE.out]; rfl, hb3⟩
    · have e1 := dE_ok (l := l) (fun t ht => by
        obtain ⟨j, hj, rfl⟩ := List.getElem_of_mem ht
        exact hok.out j hj (by omega))
      have HE := Lib.hid e1
      clear e1
      go_wp2_with fail
      go_ret
      exact ⟨by rw [HE.out]; rfl, hb⟩
end Go.Proofs.YtkbjlijcnlkbgaaDoor
namespace Go.Proofs.YtkbjlijcnlkbgaaDoor.Bt.Ff
open Ieee

def rung (x : Nat) : Nat := x % 9223372036854775808
def sgn (x : Nat) : Bool := x / 9223372036854775808 % 2 == 1
def isn (x : Nat) : Prop := 9218868437227405312 < rung x
instance (x : Nat) : Decidable (isn x) := by unfold isn; exact inferInstance
def srung (x : Nat) : Int := if sgn x then -(rung x : Int) else (rung x : Int)
def mag (r : Nat) : Nat := if r < 4503599627370496 then r else (4503599627370496 + r % 4503599627370496) * 2 ^ (r / 4503599627370496 - 1)

theorem sw : double.signWeight = 9223372036854775808 := by decide
theorem bin : double.binade = 4503599627370496 := by decide
theorem infr : double.infRung = 9218868437227405312 := by decide
theorem lp : double.leastPlace = -1074 := by decide

theorem read_eq (x : Nat) : double.read x =
    if rung x < 4503599627370496 then .number (sgn x) (rung x) (-1074)
    else if rung x < 9218868437227405312 then .number (sgn x) (4503599627370496 + rung x % 4503599627370496) (-1074 + ((rung x / 4503599627370496 - 1 : Nat) : Int))
    else if rung x = 9218868437227405312 then .infinity (sgn x) else .nan (sgn x) (rung x - 9218868437227405312) := by
  unfold Format.read
  rw [sw, bin, infr, lp]
  rfl

theorem mag_small {r : Nat} (h : r < 4503599627370496) : mag r = r := by unfold mag; rw [if_pos h]
theorem mag_big {r : Nat} (h : ¬ r < 4503599627370496) : mag r = (4503599627370496 + r % 4503599627370496) * 2 ^ (r / 4503599627370496 - 1) := by unfold mag; rw [if_neg h]

theorem mag_step (r : Nat) : mag r < mag (r + 1) := by
  by_cases h : r < 4503599627370496
  · by_cases h2 : r + 1 < 4503599627370496
    · rw [mag_small h, mag_small h2]; omega
    · rw [mag_small h, mag_big h2]
      have e : r + 1 = 4503599627370496 := by omega
      have q : (4503599627370496 + 4503599627370496 % 4503599627370496) * 2 ^ (4503599627370496 / 4503599627370496 - 1) = 4503599627370496 := by simp
      rw [e, q]; omega
  · have h2 : ¬ r + 1 < 4503599627370496 := by omega
    rw [mag_big h, mag_big h2]
    by_cases hm : r % 4503599627370496 = 4503599627370495
    · have e1 : (r + 1) % 4503599627370496 = 0 := by omega
      have e2 : (r + 1) / 4503599627370496 - 1 = (r / 4503599627370496 - 1) + 1 := by omega
      rw [e1, e2, hm, Nat.pow_succ]
      have hp : 0 < 2 ^ (r / 4503599627370496 - 1) := Nat.two_pow_pos _
      generalize 2 ^ (r / 4503599627370496 - 1) = p at hp
      omega
    · have e1 : (r + 1) % 4503599627370496 = r % 4503599627370496 + 1 := by omega
      have e2 : (r + 1) / 4503599627370496 = r / 4503599627370496 := by omega
      rw [e1, e2]
      exact Nat.mul_lt_mul_of_pos_right (by omega) (Nat.two_pow_pos _)

theorem mag_lt {r s : Nat} (h : r < s) : mag r < mag s := by
  obtain ⟨k, rfl⟩ : ∃ k, s = r + 1 + k := ⟨s - (r + 1), by omega⟩
  clear h
  induction k with
  | zero => exact mag_step r
  | succ k ih => exact Nat.lt_trans ih (mag_step _)
theorem mag_lt_iff {r s : Nat} : mag r < mag s ↔ r < s := by
  constructor
  · intro h
    by_cases c : r < s
    · exact c
    · rcases Nat.lt_or_eq_of_le (Nat.le_of_not_lt c) with c | c
      · have := mag_lt c; omega
      · subst c; omega
  · exact mag_lt
theorem mag_zero : mag 0 = 0 := rfl
theorem mag_pos {r : Nat} (h : 0 < r) : 0 < mag r := by have := mag_lt h; rw [mag_zero] at this; exact this

/-- The signed size of a word, over 2 to the power -1074. -/
def sv (x : Nat) : Int := if sgn x then -(mag (rung x) : Int) else (mag (rung x) : Int)
theorem sv_lt {x y : Nat} : sv x < sv y ↔ srung x < srung y := by
  have h1 : mag (rung x) < mag (rung y) ↔ rung x < rung y := mag_lt_iff
  have h2 : mag (rung y) < mag (rung x) ↔ rung y < rung x := mag_lt_iff
  have h3 : 0 < mag (rung x) ↔ 0 < rung x := by have := @mag_lt_iff 0 (rung x); rwa [mag_zero] at this
  have h4 : 0 < mag (rung y) ↔ 0 < rung y := by have := @mag_lt_iff 0 (rung y); rwa [mag_zero] at this
  unfold sv srung
  split <;> split <;> omega

theorem compare_congr {a b c d : Int} (h : a < b ↔ c < d) (h' : b < a ↔ d < c) : compare a b = compare c d := by
  simp only [compare, compareOfLessAndEq]
  by_cases e : a < b
  · rw [if_pos e, if_pos (h.1 e)]
  · rw [if_neg e, if_neg (fun x => e (h.2 x))]
    by_cases f : a = b
    · rw [if_pos f, if_pos (by omega)]
    · rw [if_neg f, if_neg (by omega)]

theorem signed_eq (s : Bool) (m u : Nat) : signed s m u = if s then -((m * 2 ^ u : Nat) : Int) else ((m * 2 ^ u : Nat) : Int) := by
  unfold signed; rw [Nat.shiftLeft_eq]
theorem signed_scale (s : Bool) (m u k : Nat) : signed s m u * ((2 ^ k : Nat) : Int) = signed s m (u + k) := by
  rw [signed_eq, signed_eq, Nat.pow_add]
  have : (m * (2 ^ u * 2 ^ k)) = (m * 2 ^ u) * 2 ^ k := by rw [Nat.mul_assoc]
  rw [this]
  split
  · rw [Int.neg_mul]; rfl
  · rfl

theorem order_num (s t : Bool) (m n : Nat) (i j : Nat) :
    Datum.order (.number s m (-1074 + (i : Int))) (.number t n (-1074 + (j : Int))) = some (compare (signed s m i) (signed t n j)) := by
  simp only [Datum.order]
  congr 1
  obtain ⟨b, hb, h1, h2⟩ : ∃ b : Nat, min (-1074 + (i : Int)) (-1074 + (j : Int)) = -1074 + (b : Int) ∧ b ≤ i ∧ b ≤ j := by
    by_cases h : i ≤ j
    · exact ⟨i, by omega, by omega, h⟩
    · exact ⟨j, by omega, by omega, by omega⟩
  rw [hb]
  have e1 : (-1074 + (i : Int) - (-1074 + (b : Int))).toNat = i - b := by omega
  have e2 : (-1074 + (j : Int) - (-1074 + (b : Int))).toNat = j - b := by omega
  rw [e1, e2]
  have f1 := signed_scale s m (i - b) b
  have f2 := signed_scale t n (j - b) b
  rw [Nat.sub_add_cancel h1] at f1
  rw [Nat.sub_add_cancel h2] at f2
  rw [← f1, ← f2]
  have hp : (0 : Int) < ((2 ^ b : Nat) : Int) := by have := Nat.two_pow_pos b; omega
  apply compare_congr
  · exact (Int.mul_lt_mul_right hp).symm
  · exact (Int.mul_lt_mul_right hp).symm

/-- A finite word read. -/
theorem read_fin {x : Nat} (h : rung x < 9218868437227405312) : ∃ m i : Nat, double.read x = .number (sgn x) m (-1074 + (i : Int)) ∧ m * 2 ^ i = mag (rung x) := by
  rw [read_eq]
  by_cases c : rung x < 4503599627370496
  · rw [if_pos c]; exact ⟨rung x, 0, rfl, by rw [mag_small c]; simp⟩
  · rw [if_neg c, if_pos h]; exact ⟨_, _, rfl, by rw [mag_big c]⟩
theorem read_inf {x : Nat} (h : rung x = 9218868437227405312) : double.read x = .infinity (sgn x) := by
  rw [read_eq, if_neg (by omega), if_neg (by omega), if_pos h]
theorem read_nan {x : Nat} (h : isn x) : double.read x = .nan (sgn x) (rung x - 9218868437227405312) := by
  unfold isn at h
  rw [read_eq, if_neg (by omega), if_neg (by omega), if_neg (by omega)]

theorem rung_lt (x : Nat) : rung x < 9223372036854775808 := Nat.mod_lt _ (by decide)

theorem signed_sv {x m i : Nat} (h : m * 2 ^ i = mag (rung x)) : signed (sgn x) m i = sv x := by
  rw [signed_eq, h]; rfl

/-- THE ORDER OF TWO WORDS. -/
theorem order_eq (x y : Nat) : double.order x y = if isn x ∨ isn y then none else some (compare (srung x) (srung y)) := by
  unfold Format.order
  by_cases hx : isn x
  · rw [if_pos (Or.inl hx), read_nan hx]; rfl
  · by_cases hy : isn y
    · rw [if_pos (Or.inr hy), read_nan hy]; cases double.read x <;> rfl
    · rw [if_neg (fun h => h.elim hx hy)]
      have lx : rung x ≤ 9218868437227405312 := by unfold isn at hx; omega
      have ly : rung y ≤ 9218868437227405312 := by unfold isn at hy; omega
      rcases Nat.lt_or_eq_of_le lx with lx | lx <;> rcases Nat.lt_or_eq_of_le ly with ly | ly
      · obtain ⟨m, i, hm, em⟩ := read_fin lx
        obtain ⟨n, j, hn, en⟩ := read_fin ly
        rw [hm, hn, order_num, signed_sv em, signed_sv en]
        exact congrArg some (compare_congr sv_lt sv_lt)
      · obtain ⟨m, i, hm, em⟩ := read_fin lx
        rw [hm, read_inf ly]
        simp only [Datum.order, srung, ly]
        cases sgn y <;> simp only [if_true, if_false, Bool.false_eq_true] <;> congr 1 <;> symm
        · rw [show compare (if sgn x = true then -(rung x : Int) else (rung x : Int)) ((9218868437227405312 : Nat) : Int) = compare (0 : Int) 1 from compare_congr (by split <;> omega) (by split <;> omega)]; rfl
        · rw [show compare (if sgn x = true then -(rung x : Int) else (rung x : Int)) (-((9218868437227405312 : Nat) : Int)) = compare (1 : Int) 0 from compare_congr (by split <;> omega) (by split <;> omega)]; rfl
      · obtain ⟨n, j, hn, en⟩ := read_fin ly
        rw [hn, read_inf lx]
        simp only [Datum.order, srung, lx]
        cases sgn x <;> simp only [if_true, if_false, Bool.false_eq_true] <;> congr 1 <;> symm
        · rw [show compare ((9218868437227405312 : Nat) : Int) (if sgn y = true then -(rung y : Int) else (rung y : Int)) = compare (1 : Int) 0 from compare_congr (by split <;> omega) (by split <;> omega)]; rfl
        · rw [show compare (-((9218868437227405312 : Nat) : Int)) (if sgn y = true then -(rung y : Int) else (rung y : Int)) = compare (0 : Int) 1 from compare_congr (by split <;> omega) (by split <;> omega)]; rfl
      · rw [read_inf lx, read_inf ly]
        simp only [Datum.order, srung, lx, ly]
        cases sgn x <;> cases sgn y <;> decide

end Go.Proofs.YtkbjlijcnlkbgaaDoor.Bt.Ff
set_option linter.unusedSimpArgs false
set_option linter.unusedVariables false
namespace Go.Proofs.YtkbjlijcnlkbgaaDoor.Bt
open Go Ff

theorem ext_bits (b : Nat) (w : World) : (callFunc 70 #[.float .f64 b]).run Tryd.prog w = .ok (.value (.int .u64 b)) w := by kernel_rfl
theorem ext_from (b : Nat) (w : World) : (callFunc 69 #[.int .u64 b]).run Tryd.prog w = .ok (.value (.float .f64 b)) w := by kernel_rfl

theorem isn_iff (x : Nat) : isn x ↔ 9218868437227405312 < rung x := Iff.rfl
theorem isn_ne (x : Nat) : (FloatKind.f64.format.order x x != some Ordering.eq) = decide (isn x) := by
  rw [show FloatKind.f64.format.order x x = _ from order_eq x x]
  by_cases h : isn x
  · simp [h]
  · simp [h, compare, compareOfLessAndEq]
theorem and_not_top (x : Nat) (hx : x < 18446744073709551616) : bits BinOp.andNot IntKind.u64 (x : Int) 9223372036854775808 = ((rung x : Nat) : Int) := by
  rw [show (9223372036854775808 : Int) = ((9223372036854775808 : Nat) : Int) from rfl, u64_andNot_nat x _ hx (by decide)]
  congr 1
  exact Nat.and_two_pow_sub_one_eq_mod x 63
theorem and_top (x : Nat) (hx : x < 18446744073709551616) : bits BinOp.and IntKind.u64 (x : Int) 9223372036854775808 = if sgn x then 9223372036854775808 else 0 := by
  rw [show (9223372036854775808 : Int) = ((9223372036854775808 : Nat) : Int) from rfl, u64_and_nat x _ hx (by decide), nat_bit 63 x]
  unfold sgn
  by_cases h : x / 2 ^ 63 % 2 = 1
  · rw [h]; simp
  · have : x / 2 ^ 63 % 2 = 0 := by omega
    rw [this]; simp

def kind (x : Nat) : Nat := if isn x then 5 else if rung x = 9218868437227405312 then 4 else if rung x = 0 then 1 else if rung x < 4503599627370496 then 2 else 3

theorem ret_int {k : IntKind} {a b : Int} (h : a = b) : Ending.returned (.int k a) = .returned (.int k b) := by rw [h]
theorem ret_bool {a b : Bool} (h : a = b) : Ending.returned (.bool a) = .returned (.bool b) := by rw [h]
theorem mod_top (x : Nat) : (x : Int) % 9223372036854775808 = ((rung x : Nat) : Int) := by unfold rung; omega

@[irreducible] def infB (x : Nat) : Bool := rung x == 9218868437227405312
theorem infB_true (x : Nat) : infB x = true ↔ rung x = 9218868437227405312 := by unfold infB; exact beq_iff_eq
theorem infB_false (x : Nat) : infB x = false ↔ ¬ rung x = 9218868437227405312 := by unfold infB; exact beq_eq_false_iff_ne
@[local go_sem] theorem eq_inf (x : Nat) : ((rung x : Int) == 9218868437227405312) = infB x := by
  rw [Bool.eq_iff_iff, beq_iff_eq, infB_true]; omega

@[irreducible] def subB (x : Nat) : Bool := decide (rung x < 4503599627370496)
theorem subB_true (x : Nat) : subB x = true ↔ rung x < 4503599627370496 := by unfold subB; exact decide_eq_true_iff
theorem subB_false (x : Nat) : subB x = false ↔ ¬ rung x < 4503599627370496 := by unfold subB; exact decide_eq_false_iff_not
@[local go_sem] theorem lt_sub (x : Nat) : decide ((rung x : Int) < 4503599627370496) = subB x := by
  rw [Bool.eq_iff_iff, decide_eq_true_iff, subB_true]; omega

end Go.Proofs.YtkbjlijcnlkbgaaDoor.Bt
set_option linter.unusedSimpArgs false
set_option linter.unusedVariables false
namespace Go.Proofs.YtkbjlijcnlkbgaaDoor.Bt
open Go Go.RowKit Ff

@[irreducible] def finB (x : Nat) : Bool := decide (rung x < 9218868437227405312)
theorem finB_true (x : Nat) : finB x = true ↔ rung x < 9218868437227405312 := by unfold finB; exact decide_eq_true_iff
theorem finB_false (x : Nat) : finB x = false ↔ ¬ rung x < 9218868437227405312 := by unfold finB; exact decide_eq_false_iff_not
theorem kind_lt (x : Nat) : decide ((kind x : Int) < 4) = finB x := by
  rw [Bool.eq_iff_iff, decide_eq_true_iff, finB_true]
  simp only [kind, isn_iff]
  repeat' split
  all_goals omega

theorem isn_eq (x : Nat) : (FloatKind.f64.format.order x x == some Ordering.eq) = !decide (isn x) := by
  have := isn_ne x
  revert this
  cases h : (FloatKind.f64.format.order x x == some Ordering.eq) <;> simp [bne, h]
@[irreducible] def topped (b : Nat) : Nat := 9223372036854775808 + b
theorem topped_eq (b : Nat) : topped b = 9223372036854775808 + b := by unfold topped; rfl
@[irreducible] def wf (neg : Bool) (r : Nat) : Nat := if neg then topped r else r
theorem wf_eq (neg : Bool) (r : Nat) : wf neg r = if neg then topped r else r := by unfold wf; rfl
theorem signed_b (neg : Bool) (b : Nat) (hb : b < 9223372036854775808) (w : World) :
    Calls Tryd.prog 68 #[.bool neg, .int .u64 b] w fun e w' => e = .returned (.float .f64 (wf neg b)) ∧ w = w' := by
  have h12 := ext_from
  have ho : bits BinOp.or IntKind.u64 (b : Int) 9223372036854775808 = ((topped b : Nat) : Int) := by
    rw [topped_eq, show (9223372036854775808 : Int) = ((9223372036854775808 : Nat) : Int) from rfl, u64_or_nat b _ (by omega) (by decide), Nat.or_comm]
    congr 1
    exact nat_join 63 _ _ (by decide) hb
  cases neg
  all_goals
    go_enter Tryd.func68, Tryd.ntmps68
    go_wp2
    all_goals go_ret
    all_goals exact ⟨by rw [wf_eq]; rfl, rfl⟩
theorem sub_self (x : Nat) (h : rung x < 9218868437227405312) : floatBits .sub .f64 x x = some 0 := by
  show Ieee.double.sub x x = some 0
  obtain ⟨m, i, hm, _⟩ := read_fin h
  unfold Ieee.Format.sub
  rw [hm]
  simp only [Ieee.Datum.opposite, Ieee.Datum.sum, Int.min_self, Int.sub_self]
  have e : Ieee.signed (sgn x) m (Int.toNat 0) + Ieee.signed (!sgn x) m (Int.toNat 0) = 0 := by
    rw [signed_eq, signed_eq]; cases sgn x <;> simp <;> omega
  rw [e]
  simp only [if_true, Bool.and_not_self]
  rfl
theorem sub_inf (x : Nat) (h : rung x = 9218868437227405312) : Ieee.double.sub x x = none := by
  unfold Ieee.Format.sub
  rw [read_inf h]
  cases sgn x <;> rfl
theorem order_zz : (FloatKind.f64.format.order 0 0 == some Ordering.eq) = true := by decide

@[irreducible] def nanAt (w : World) (x y : Nat) : Nat := (Question.nanBits .f64 x y).cut (w.tape w.drawn (.nanBits .f64 x y))
theorem nanAt_isn (w : World) (x y : Nat) : isn (nanAt w x y) := by
  unfold nanAt Question.cut isn rung
  simp only
  generalize w.tape w.drawn (.nanBits .f64 x y) = t
  have h2 : t / 2 % (2 ^ 52 - 1) < 4503599627370495 := Nat.mod_lt _ (by decide)
  generalize t / 2 % (2 ^ 52 - 1) = u at h2
  have h3 : t % 2 = 0 ∨ t % 2 = 1 := by omega
  rcases h3 with h3 | h3 <;> rw [h3] <;> omega
theorem run_sub_nan (t : TypeId) (x y : Nat) (h : Ieee.double.sub x y = none) (w : World) :
    (binOp .sub t (.float .f64 x) (.float .f64 y)).run Tryd.prog w = .ok (.float .f64 (nanAt w x y)) w.drew := by
  have h' : FloatKind.f64.format.sub x y = none := h
  simp [binOp, Op.floatArith, h', nanAt, Question.forced]

end Go.Proofs.YtkbjlijcnlkbgaaDoor.Bt
set_option linter.unusedSimpArgs false
set_option linter.unusedVariables false
namespace Go.Proofs.YtkbjlijcnlkbgaaDoor.Bt
open Go

theorem ctzFrom_more : ∀ (f x : Nat), 0 < x → x < 2 ^ f → Lib.ctzFrom (f + 1) x = Lib.ctzFrom f x
  | 0, x, h0, h => by simp at h; omega
  | f + 1, x, h0, h => by
    have hp := Nat.pow_succ (n := 2) (m := f)
    by_cases c : x % 2 = 1
    · simp only [Lib.ctzFrom, if_pos c]
    · have ih := ctzFrom_more f (x / 2) (by omega) (by omega)
      rw [Lib.ctzFrom, if_neg c, ih, Lib.ctzFrom, if_neg c]

def tz (m : Nat) : Nat := Lib.ctz 64 m
def od (m : Nat) : Nat := m / 2 ^ tz m
theorem tz_odd {m : Nat} (h : m % 2 = 1) : tz m = 0 := by
  unfold tz Lib.ctz
  rw [if_neg (by omega), Lib.ctzFrom, if_pos h]
theorem tz_even {m : Nat} (h0 : 0 < m) (hm : m < 18446744073709551616) (h : m % 2 = 0) : tz m = tz (m / 2) + 1 := by
  unfold tz Lib.ctz
  rw [if_neg (by omega), if_neg (by omega), show (64 : Nat) = 63 + 1 from rfl, Lib.ctzFrom, if_neg (by omega), ctzFrom_more 63 (m / 2) (by omega) (by omega)]
  omega
theorem od_odd {m : Nat} (h : m % 2 = 1) : od m = m := by unfold od; rw [tz_odd h]; simp
theorem od_even {m : Nat} (h0 : 0 < m) (hm : m < 18446744073709551616) (h : m % 2 = 0) : od m = od (m / 2) := by
  unfold od
  rw [tz_even h0 hm h, Nat.pow_succ, Nat.mul_comm, Nat.div_div_eq_div_mul]
theorem tz_spec {m : Nat} (h0 : 0 < m) (hm : m < 18446744073709551616) : od m * 2 ^ tz m = m ∧ od m % 2 = 1 ∧ tz m < 64 := by
  obtain ⟨q, hq, hk⟩ := Lib.ctzFrom_spec 64 m h0 (by omega)
  have e : tz m = Lib.ctzFrom 64 m := by unfold tz Lib.ctz; rw [if_neg (by omega)]
  have e2 : od m = 2 * q + 1 := by
    unfold od; rw [e]
    have hp := Nat.two_pow_pos (Lib.ctzFrom 64 m)
    generalize Lib.ctzFrom 64 m = k at hq hp ⊢
    rw [hq, Nat.mul_comm, Nat.mul_div_cancel _ hp]
  refine ⟨?_, by omega, by omega⟩
  rw [e2, e, Nat.mul_comm]; exact hq.symm
theorem od_pos {m : Nat} (h0 : 0 < m) (hm : m < 18446744073709551616) : 0 < od m := by have := (tz_spec h0 hm).2.1; omega
theorem od_le {m : Nat} : od m ≤ m := Nat.div_le_self _ _

theorem bl_spec : ∀ (f m : Nat), m < 2 ^ f → m < 2 ^ Lib.bitLenAux f m ∧ (0 < m → 2 ^ Lib.bitLenAux f m ≤ 2 * m) ∧ Lib.bitLenAux f m ≤ f
  | 0, m, h => by simp at h; subst h; simp [Lib.bitLenAux]
  | f + 1, m, h => by
    rw [Lib.bitLenAux]
    by_cases c : m = 0
    · rw [if_pos c]; subst c; simp
    · rw [if_neg c]
      have hp := Nat.pow_succ (n := 2) (m := f)
      obtain ⟨h1, h2, h3⟩ := bl_spec f (m / 2) (by omega)
      rw [Nat.add_comm 1, Nat.pow_succ]
      refine ⟨by omega, fun _ => ?_, by omega⟩
      by_cases c2 : m / 2 = 0
      · have : m = 1 := by omega
        subst this
        have e : Lib.bitLenAux f (1 / 2) = 0 := by cases f <;> simp [Lib.bitLenAux]
        rw [e]; decide
      · have := h2 (by omega); omega
theorem bl_zero : Lib.bitLen 0 = 0 := by decide
theorem bl_lt {m : Nat} (h : m < 18446744073709551616) : m < 2 ^ Lib.bitLen m := (bl_spec 64 m h).1
theorem bl_ge {m : Nat} (h : m < 18446744073709551616) (h0 : 0 < m) : 2 ^ Lib.bitLen m ≤ 2 * m := (bl_spec 64 m h).2.1 h0
theorem bl_le {m : Nat} (h : m < 18446744073709551616) : Lib.bitLen m ≤ 64 := (bl_spec 64 m h).2.2
theorem bl_pos {m : Nat} (h0 : 0 < m) : 0 < Lib.bitLen m := by
  unfold Lib.bitLen Lib.bitLenAux; rw [if_neg (by omega)]; omega
/-- m has at most k digits just if it is below 2^k. -/
theorem bl_le_iff {m k : Nat} (h : m < 18446744073709551616) : Lib.bitLen m ≤ k ↔ m < 2 ^ k := by
  constructor
  · intro c; exact Nat.lt_of_lt_of_le (bl_lt h) (Nat.pow_le_pow_right (by decide) c)
  · intro c
    by_cases h0 : 0 < m
    · have g := bl_ge h h0
      apply Nat.le_of_not_lt
      intro d
      have e : 2 ^ (k + 1) ≤ 2 ^ Lib.bitLen m := Nat.pow_le_pow_right (by decide) d
      rw [Nat.pow_succ] at e
      omega
    · have : m = 0 := by omega
      subst this; exact Nat.zero_le _
end Go.Proofs.YtkbjlijcnlkbgaaDoor.Bt
set_option linter.unusedSimpArgs false
set_option linter.unusedVariables false
namespace Go.Proofs.YtkbjlijcnlkbgaaDoor.Bt
open Go Go.RowKit Ff

/-- What stands in the worlds of these calls: the table of the library's. -/
def Tabs (w : World) : Prop := TabAt 0 Lib.deBruijn64tab w ∧ 0 < w.heap.size
theorem Tabs.below {w w' : World} (h : Tabs w) (hb : Below w.heap.size w w') : Tabs w' :=
  ⟨fun j hj => by rw [hb.cell (p := ⟨0, j, none⟩) h.2]; exact h.1 j hj, Nat.lt_of_lt_of_le h.2 hb.size⟩

@[irreducible] def frac (x : Nat) : Nat := rung x % 4503599627370496
@[irreducible] def pm (x : Nat) : Nat := if rung x < 4503599627370496 then rung x else 4503599627370496 + rung x % 4503599627370496
@[irreducible] def pex (x : Nat) : Int := if rung x < 4503599627370496 then -1074 else -1074 + ((rung x / 4503599627370496 - 1 : Nat) : Int)
def partM (x : Nat) : Nat := if rung x = 0 then 0 else od (pm x)
def partE (x : Nat) : Int := if rung x = 0 then 0 else pex x + tz (pm x)
theorem frac_eq (x : Nat) : frac x = rung x % 4503599627370496 := by unfold frac; rfl
theorem pm_sub {x : Nat} (h : rung x < 4503599627370496) : pm x = rung x := by unfold pm; rw [if_pos h]
theorem pm_nor {x : Nat} (h : ¬ rung x < 4503599627370496) : pm x = 4503599627370496 + frac x := by unfold pm; rw [if_neg h, frac_eq]
theorem pex_sub {x : Nat} (h : rung x < 4503599627370496) : pex x = -1074 := by unfold pex; rw [if_pos h]
theorem pex_nor {x : Nat} (h : ¬ rung x < 4503599627370496) : pex x = -1074 + ((rung x / 4503599627370496 - 1 : Nat) : Int) := by unfold pex; rw [if_neg h]
theorem pm_pos {x : Nat} (h : rung x ≠ 0) : 0 < pm x := by unfold pm; split <;> omega
theorem pm_lt (x : Nat) : pm x < 9007199254740992 := by unfold pm; split <;> omega

theorem frac_and (x : Nat) : bits BinOp.and IntKind.u64 (rung x : Int) 4503599627370495 = (frac x : Int) := by
  have := rung_lt x
  rw [show (4503599627370495 : Int) = ((4503599627370495 : Nat) : Int) from rfl, u64_and_nat (rung x) _ (by omega) (by decide), frac_eq]
  congr 1
  exact Nat.and_two_pow_sub_one_eq_mod (rung x) 52
theorem frac_or (x : Nat) (h : ¬ rung x < 4503599627370496) : bits BinOp.or IntKind.u64 (frac x : Int) 4503599627370496 = (pm x : Int) := by
  have := rung_lt x
  have hf : frac x < 4503599627370496 := by rw [frac_eq]; omega
  rw [show (4503599627370496 : Int) = ((4503599627370496 : Nat) : Int) from rfl, u64_or_nat (frac x) _ (by omega) (by decide), pm_nor h, Nat.or_comm]
  congr 1
  exact nat_join 52 _ _ (by decide) hf
theorem frac_sub {x : Nat} (h : rung x < 4503599627370496) : (frac x : Int) = (pm x : Int) := by rw [frac_eq, pm_sub h, Nat.mod_eq_of_lt h]

@[irreducible] def topB (x : Nat) : Nat := if sgn x then 9223372036854775808 else 0
theorem top_and (x : Nat) (hx : x < 18446744073709551616) : bits BinOp.and IntKind.u64 (x : Int) 9223372036854775808 = (topB x : Int) := by
  rw [and_top x hx]; unfold topB; split <;> rfl
theorem top_ne (x : Nat) : ((topB x : Int) != 0) = sgn x := by
  unfold topB; cases sgn x <;> rfl

theorem partM_shift {x : Nat} (h0 : rung x ≠ 0) : (pm x : Int) / 2 ^ min (Lib.ctz 64 (pm x)) 64 = partM x := by
  have h := tz_spec (pm_pos h0) (by have := pm_lt x; omega)
  have e : min (Lib.ctz 64 (pm x)) 64 = tz (pm x) := by have := h.2.2; unfold tz at this ⊢; omega
  rw [e]; unfold partM od; rw [if_neg h0]; norm_cast
theorem partM_od {x : Nat} (h0 : rung x ≠ 0) : partM x = od (pm x) := by unfold partM; rw [if_neg h0]
theorem partE_eq {x : Nat} (h0 : rung x ≠ 0) : partE x = pex x + Lib.ctz 64 (pm x) := by unfold partE tz; rw [if_neg h0]
theorem ctz_le {x : Nat} (h0 : rung x ≠ 0) : Lib.ctz 64 (pm x) < 64 := (tz_spec (pm_pos h0) (by have := pm_lt x; omega)).2.2
theorem pm_rem (x : Nat) : (rung x : Int).tmod 4503599627370496 = (frac x : Int) := by
  rw [frac_eq]; exact Int.ofNat_tmod (rung x) 4503599627370496
theorem pm_mod (x : Nat) : (rung x : Int) % 4503599627370496 = (frac x : Int) := by rw [frac_eq]; omega
theorem pm_add {x : Nat} (h : ¬ rung x < 4503599627370496) : (frac x : Int) + 4503599627370496 = (pm x : Int) := by rw [pm_nor h]; omega
@[irreducible] def norB (x : Nat) : Bool := decide (4503599627370496 ≤ rung x)
theorem nor_geq (x : Nat) : decide ((4503599627370496 : Int) ≤ (rung x : Int)) = norB x := by
  unfold norB; rw [Bool.eq_iff_iff, decide_eq_true_iff, decide_eq_true_iff]; omega

end Go.Proofs.YtkbjlijcnlkbgaaDoor.Bt
set_option linter.unusedVariables false
namespace Go.Proofs.YtkbjlijcnlkbgaaDoor
open Go Go.RowKit


/-! Plain functions on lists, straight by the recursor: the kernel runs them much faster. -/
section lists
variable {α β : Type}
noncomputable def getL (d : α) (l : List α) : Nat → α := List.rec (motive := fun _ => Nat → α) (fun _ => d) (fun a _ ih n => Nat.rec (motive := fun _ => α) a (fun m _ => ih m) n) l
theorem getL_eq (d : α) : ∀ (l : List α) (n : Nat), getL d l n = l.getD n d
  | [], _ => rfl
  | _ :: _, 0 => rfl
  | _ :: l, n + 1 => (getL_eq d l n).trans (by simp)
noncomputable def getO (l : List α) : Nat → Option α := List.rec (motive := fun _ => Nat → Option α) (fun _ => none) (fun a _ ih n => Nat.rec (motive := fun _ => Option α) (some a) (fun m _ => ih m) n) l
theorem getO_eq : ∀ (l : List α) (n : Nat), getO l n = l[n]?
  | [], _ => rfl
  | _ :: _, 0 => rfl
  | _ :: l, n + 1 => (getO_eq l n).trans (by simp)
noncomputable def setL (v : α) (l : List α) : Nat → List α := List.rec (motive := fun _ => Nat → List α) (fun _ => []) (fun a r ih n => Nat.rec (motive := fun _ => List α) (v :: r) (fun m _ => a :: ih m) n) l
theorem setL_eq (v : α) : ∀ (l : List α) (n : Nat), setL v l n = l.set n v
  | [], _ => rfl
  | _ :: _, 0 => rfl
  | a :: l, n + 1 => congrArg (a :: ·) (setL_eq v l n)
noncomputable def takeL (l : List α) : Nat → List α := List.rec (motive := fun _ => Nat → List α) (fun _ => []) (fun a _ ih n => Nat.rec (motive := fun _ => List α) [] (fun m _ => a :: ih m) n) l
theorem takeL_eq : ∀ (l : List α) (n : Nat), takeL l n = l.take n
  | [], n => by simp; rfl
  | _ :: _, 0 => rfl
  | a :: l, n + 1 => congrArg (a :: ·) (takeL_eq l n)
noncomputable def dropL (l : List α) : Nat → List α := List.rec (motive := fun _ => Nat → List α) (fun _ => []) (fun a r ih n => Nat.rec (motive := fun _ => List α) (a :: r) (fun m _ => ih m) n) l
theorem dropL_eq : ∀ (l : List α) (n : Nat), dropL l n = l.drop n
  | [], n => by simp; rfl
  | _ :: _, 0 => rfl
  | a :: l, n + 1 => dropL_eq l n
noncomputable def appL (l m : List α) : List α := List.rec (motive := fun _ => List α) m (fun a _ ih => a :: ih) l
theorem appL_eq : ∀ (l m : List α), appL l m = l ++ m
  | [], _ => rfl
  | a :: l, m => congrArg (a :: ·) (appL_eq l m)
noncomputable def lenL (l : List α) : Nat := List.rec (motive := fun _ => Nat) 0 (fun _ _ ih => Nat.succ ih) l
theorem lenL_eq : ∀ (l : List α), lenL l = l.length
  | [] => rfl
  | _ :: l => congrArg Nat.succ (lenL_eq l)
noncomputable def mapL (f : α → β) (l : List α) : List β := List.rec (motive := fun _ => List β) [] (fun a _ ih => f a :: ih) l
theorem mapL_eq (f : α → β) : ∀ (l : List α), mapL f l = l.map f
  | [] => rfl
  | a :: l => congrArg (f a :: ·) (mapL_eq f l)
noncomputable def allL (p : α → Bool) (l : List α) : Bool := List.rec (motive := fun _ => Bool) true (fun a _ ih => Bool.rec false ih (p a)) l
theorem allL_eq (p : α → Bool) : ∀ (l : List α), allL p l = l.all p
  | [] => rfl
  | a :: l => by
    rw [List.all_cons, ← allL_eq p l]
    show (Bool.rec (motive := fun _ => Bool) false (allL p l) (p a) : Bool) = _
    cases p a <;> rfl
/-- The list laid open to its end, ahead of what follows. -/
noncomputable def forceL (l : List α) : (List α → β) → β := List.rec (motive := fun _ => (List α → β) → β) (fun k => k []) (fun a _ ih k => ih (fun r => k (a :: r))) l
theorem forceL_eq : ∀ (l : List α) (k : List α → β), forceL l k = k l
  | [], _ => rfl
  | a :: l, k => forceL_eq l (fun r => k (a :: r))
noncomputable def forceN (n : Nat) (k : Nat → β) : β := Nat.rec (motive := fun _ => β) (k 0) (fun m _ => k (Nat.succ m)) n
theorem forceN_eq (n : Nat) (k : Nat → β) : forceN n k = k n := by cases n <;> rfl
noncomputable def forceI (n : Int) (k : Int → β) : β := Int.rec (motive := fun _ => β) (fun m => forceN m fun m => k (.ofNat m)) (fun m => forceN m fun m => k (.negSucc m)) n
theorem forceI_eq (n : Int) (k : Int → β) : forceI n k = k n := by
  cases n with
  | ofNat m => exact forceN_eq m fun m => k (.ofNat m)
  | negSucc m => exact forceN_eq m fun m => k (.negSucc m)
end lists
/-- A value as it is reckoned with: known to the letter; an address into a block of the run's own; what holds such. -/
inductive AV where
  | lit (v : Value)
  | ptr (k off : Nat)
  | sl (k off len : Nat) (cap : Option Nat) (sz : Nat)
  | emp
  | agg (vs : List AV)
  | tup (vs : List AV)
  | ifc (t : TypeId) (v : AV)
  | fn (f : Fn) (first captured : List AV)
  | sym (i : Nat)
  | row (n off : Nat) (cells : List AV)
  deriving Inhabited
/-- A frame: a tree of its temporaries. -/
inductive Tr where
  | lf
  | nd (v : AV) (l r : Tr)
structure Fr where
  n : Nat
  t : Tr
noncomputable def trGet (t : Tr) : Nat → AV := Tr.rec (motive := fun _ => Nat → AV) (fun _ => .lit undef) (fun v _ _ ihl ihr i => Bool.rec (Bool.rec (ihr (i / 2 - 1)) (ihl (i / 2)) (Nat.beq (i % 2) 1)) v (Nat.beq i 0)) t
noncomputable def trSet (v : AV) (t : Tr) : Nat → Tr := Tr.rec (motive := fun _ => Nat → Tr) (fun _ => .lf) (fun u l r ihl ihr i => Bool.rec (Bool.rec (.nd u l (ihr (i / 2 - 1))) (.nd u (ihl (i / 2)) r) (Nat.beq (i % 2) 1)) (.nd v l r) (Nat.beq i 0)) t
noncomputable def trFull (d : Nat) : Tr := Nat.rec (motive := fun _ => Tr) .lf (fun _ t => .nd (.lit undef) t t) d
noncomputable def trInit (l : List AV) : Nat → Tr → Tr := List.rec (motive := fun _ => Nat → Tr → Tr) (fun _ t => t) (fun v _ ih i t => ih (i + 1) (trSet v t i)) l
noncomputable def getF (f : Fr) (i : Nat) : AV := Fr.rec (motive := fun _ => AV) (fun n t => Bool.rec (.lit undef) (trGet t i) (Nat.blt i n)) f
noncomputable def setF (v : AV) (f : Fr) (i : Nat) : Fr := Fr.rec (motive := fun _ => Fr) (fun n t => Bool.rec ⟨n, t⟩ ⟨n, trSet v t i⟩ (Nat.blt i n)) f
/-- The frame's root laid open, ahead of what follows. -/
noncomputable def forceF {β : Type} (f : Fr) (k : Fr → β) : β := Fr.rec (motive := fun _ => β) (fun n t => Tr.rec (motive := fun _ => β) (k ⟨n, .lf⟩) (fun v l r _ _ => k ⟨n, .nd v l r⟩) t) f
theorem forceF_eq {β : Type} (f : Fr) (k : Fr → β) : forceF f k = k f := by
  cases f with
  | mk n t => cases t <;> rfl
/-- n: the next new number; h: the blocks; wr: the numbers of those that were written; gl: the variables that are known, by their blocks. -/
structure AS where
  n : Nat
  h : List (Nat × List AV)
  wr : List Nat
  gl : List (Nat × List AV)
noncomputable def hasN (l : List Nat) (k : Nat) : Bool := List.rec (motive := fun _ => Bool) false (fun a _ ih => Bool.rec ih true (Nat.beq a k)) l
noncomputable def addW (k : Nat) (l : List Nat) : List Nat := match hasN l k with
  | true => l
  | false => k :: l
noncomputable def unionW (l m : List Nat) : List Nat := List.rec (motive := fun _ => List Nat) m (fun a _ ih => addW a ih) l
noncomputable def oldW (n : Nat) (l : List Nat) : List Nat := List.rec (motive := fun _ => List Nat) [] (fun a _ ih => Bool.rec (a :: ih) ih (Nat.ble n a)) l
noncomputable def look (k : Nat) (h : List (Nat × List AV)) : Option (List AV) :=
  List.rec (motive := fun _ => Option (List AV)) none (fun p _ ih => Bool.rec ih (some p.2) (Nat.beq p.1 k)) h
theorem look_nil (k : Nat) : look k [] = none := rfl
theorem look_cons (k : Nat) (p : Nat × List AV) (h : List (Nat × List AV)) : look k (p :: h) = if p.1 = k then some p.2 else look k h := by
  show (Bool.rec (look k h) (some p.2) (Nat.beq p.1 k) : Option (List AV)) = _
  cases hb : Nat.beq p.1 k with
  | true => rw [if_pos (Nat.eq_of_beq_eq_true hb)]
  | false => rw [if_neg (Nat.ne_of_beq_eq_false hb)]
noncomputable def upd (k : Nat) (b : List AV) (h : List (Nat × List AV)) : List (Nat × List AV) :=
  List.rec (motive := fun _ => List (Nat × List AV)) [] (fun p r ih => Bool.rec (p :: ih) ((p.1, b) :: r) (Nat.beq p.1 k)) h
noncomputable def kill (k : Nat) (h : List (Nat × List AV)) : List (Nat × List AV) :=
  List.rec (motive := fun _ => List (Nat × List AV)) [] (fun p _ ih => Bool.rec (p :: ih) ih (Nat.beq p.1 k)) h
noncomputable def dropNew (n : Nat) (h : List (Nat × List AV)) : List (Nat × List AV) :=
  List.rec (motive := fun _ => List (Nat × List AV)) [] (fun p _ ih => Bool.rec (p :: ih) ih (Nat.ble n p.1)) h
noncomputable def litOf : AV → Option Value
  | .lit v => some v
  | _ => none
noncomputable def litOf2 (v : AV) (l : Option (List Value)) : Option (List Value) := match v, l with
  | .lit v, some l => some (v :: l)
  | _, _ => none
noncomputable def lits (l : List AV) : Option (List Value) := List.rec (motive := fun _ => Option (List Value)) (some []) (fun v _ ih => litOf2 v ih) l
noncomputable def mkAgg (vs : List AV) : AV := match lits vs with
  | some l => .lit (.agg l.toArray)
  | none => .agg vs
noncomputable def mkTup (vs : List AV) : AV := match lits vs with
  | some l => .lit (.tuple l.toArray)
  | none => .tup vs
noncomputable def AV.cells : AV → List AV
  | .agg vs => vs
  | .lit (.agg cs) => mapL .lit cs.toList
  | v => [v]
/-- The value of one cell? -/
noncomputable def AV.one : AV → Bool
  | .agg _ | .tup _ => false
  | .lit (.agg _) | .lit (.tuple _) => false
  | _ => true
noncomputable def opnd (f : Fr) : Operand → AV
  | .tmp t => getF f t
  | .const v => .lit v
  | .global g => .lit (.pointer (some ⟨g, 0, none⟩))
  | .func k => .lit (.func (.func k) #[] #[])
noncomputable def val : AV → Value
  | .lit v => v
  | _ => undef
noncomputable def isLit : AV → Bool
  | .lit _ => true
  | _ => false
/-- What asks nothing of the world. -/
noncomputable def runPure (P : Program) {α : Type} : Sem α → Option α
  | .pure a => some a
  | .program k => runPure P (k P)
  | .mark _ k => runPure P k
  | _ => none
noncomputable def noSel : Op → Bool
  | .select .. => false
  | _ => true
noncomputable def evalPure (P : Program) (f : Fr) (o : Oper) : Option Next :=
  match noSel o.op && allL (fun x => isLit (opnd f x)) o.op.operands.toList with
  | true => runPure P (execOp (fun x => val (opnd f x)) o)
  | false => none
noncomputable def isRowT (P : Program) (t : TypeId) : Option Bool := match P.underlying t with
  | some (.struct _) | some (.array _ _) => some true
  | some _ => some false
  | none => none
noncomputable def sizeT (P : Program) (t : TypeId) : Option Nat := (P.info? t).map (·.size)
/-- What lies in these cells from off on, as a value of the type t. -/
noncomputable def partOf (P : Program) (t : TypeId) (cs : List AV) (off : Nat) : Option AV :=
  match isRowT P t, sizeT P t with
  | some true, some n => match Nat.ble (off + n) (lenL cs) with
    | true => some (mkAgg (takeL (dropL cs off) n))
    | false => none
  | some false, some _ => getO cs off
  | _, _ => none
noncomputable def intLit : AV → Option Int
  | .lit (.int _ n) => some n
  | _ => none
/-- The bounds of a cut, each known. -/
noncomputable def bound (d : Nat) : Option AV → Option Nat
  | none => some d
  | some (.lit (.int _ (.ofNat n))) => some n
  | some _ => none
noncomputable def bounds3 (len cap : Nat) (lo hi mx : Option AV) : Option (Nat × Nat × Nat) :=
  match hi, mx with
  | none, some _ => none
  | _, _ => match bound 0 lo, bound len hi, bound cap mx with
    | some l, some h, some m => match Nat.ble l h && (Nat.ble h m && Nat.ble m cap) with
      | true => some (l, h, m)
      | false => none
    | _, _, _ => none
noncomputable def cutSl (k off n l h m : Nat) : AV := match Nat.beq m l with
  | true => .sl k off (h - l) (some (m - l)) 0
  | false => .sl k (off + l * n) (h - l) (some (m - l)) 0
noncomputable def zeros (z : Array Value) (n : Nat) : List AV := mapL (fun i => .lit (z[i % z.size]!)) (List.range n)
noncomputable def newB (s : AS) (b : List AV) : AS := ⟨s.n + 1, (s.n, b) :: s.h, s.wr, s.gl⟩
noncomputable def fillA (place : Nat → Option (Nat × Nat)) (cells : List AV) : List (Nat × AV) → Option (List AV)
  | [] => some cells
  | (i, v) :: rest =>
    match place i with
    | none => none
    | some (off, size) => match Nat.beq (lenL v.cells) size && Nat.ble (off + lenL v.cells) (lenL cells) with
      | true => fillA place (appL (takeL cells off) (appL v.cells (dropL cells (off + lenL v.cells)))) rest
      | false => none
/-- The first n elements' cells. -/
noncomputable def firstA (s : AS) (size n : Nat) : AV → Option (List AV)
  | .lit (.slice none _ _) => some []
  | .lit (.string b) => match Nat.ble n b.size with
    | true => some (mapL (fun x => .lit (.int .u8 x.toNat)) (takeL b.data.toList n))
    | false => none
  | .sl k off _ _ _ => match look k s.h with
    | some b => match Nat.ble (off + n * size) (lenL b) with
      | true => some (takeL (dropL b off) (n * size))
      | false => none
    | none => none
  | _ => none
noncomputable def lenOfSlice : AV → Option Nat
  | .lit (.slice none n _) => some n
  | .lit (.string b) => some b.size
  | .sl _ _ len _ _ => some len
  | .emp => some 0
  | _ => none
noncomputable def bytesOf : List AV → Option (List UInt8)
  | [] => some []
  | .lit (.int .u8 (.ofNat n)) :: r => match bytesOf r with
    | some l => some (UInt8.ofNat n :: l)
    | none => none
  | _ :: _ => none
abbrev CallE := Nat → FuncId → List AV → AS → Option (AV × AS)
noncomputable def appendTo (floor size : Nat) (x : AV) (new : List AV) (n : Nat) (s : AS) : Option (AV × AS) :=
  match x with
  | .lit (.slice none 0 0) => match Nat.beq n 0, Nat.ble n 1000000 with
    | true, _ => some (x, s)
    | false, true => some (.sl s.n 0 n none size, newB s new)
    | _, _ => none
  | .sl k off len none sz => match look k s.h, Nat.beq off 0 && (Nat.ble floor k && (Nat.beq sz size && Nat.ble (len + n) 1000000)) with
    | some b, true => match Nat.beq n 0, Nat.ble (len * size) (lenL b) with
      | true, _ => some (x, s)
      | false, true => some (.sl s.n 0 (len + n) none size, newB ⟨s.n, kill k s.h, addW k s.wr, s.gl⟩ (appL (takeL b (len * size)) new))
      | _, _ => none
    | _, _ => none
  | .sl k off len (some c) _ => match Nat.ble (len + n) c with
    | true => match look k s.h, Nat.ble floor k with
      | some b, true => match Nat.ble (off + (len + n) * size) (lenL b) with
        | true => some (.sl k off (len + n) (some c) 0, ⟨s.n, upd k (appL (takeL b (off + len * size)) (appL new (dropL b (off + (len + n) * size)))) s.h, addW k s.wr, s.gl⟩)
        | false => none
      | _, _ => none
    | false => match firstA s size len x, Nat.ble (len + n) 1000000 with
      | some old, true => some (.sl s.n 0 (len + n) none size, newB s (appL old new))
      | _, _ => none
  | _ => none
noncomputable def evalAppend (P : Program) (floor : Nat) (t u : TypeId) (x y : AV) (s : AS) : Option (AV × AS) :=
  match P.underlying t, P.underlying u with
  | some (.slice e), some (.slice _) | some (.slice e), some .string => match P.info? e with
    | some i => match i.zero, firstA s i.size ((lenOfSlice y).getD 0) y, lenOfSlice y with
      | some z, some new, some n => match Nat.beq z.cells.size i.size && (Nat.ble i.bytes 10000000 && (Nat.beq (lenL new) (n * i.size) && allL (·.one) new)) with
        | true => appendTo floor i.size x new n s
        | false => none
      | _, _, _ => none
    | none => none
  | _, _ => none
noncomputable def placeF (P : Program) (fs : Array Field) (j : Nat) : Option (Nat × Nat) := match fs[j]? with
  | some fd => (sizeT P fd.type).map (fd.offset, ·)
  | none => none
noncomputable def wlPick (f : Fr) (c a b : Operand) : Option AV := match opnd f c with
    | .lit (.bool true) => some (opnd f a)
    | .lit (.bool false) => some (opnd f b)
    | _ => none
noncomputable def wlExtract (f : Fr) (t : Operand) (i : Nat) : Option AV := match opnd f t with
    | .tup vs => (vs[i]?)
    | .lit (.tuple vs) => (vs[i]?).map .lit
    | _ => none
noncomputable def wlNil (f : Fr) (x : Operand) : Option AV := match opnd f x with
    | .ptr k off => some (.ptr k off)
    | _ => none
noncomputable def wlFieldAddr (P : Program) (f : Fr) (t : TypeId) (x : Operand) (i : Nat) : Option AV := match opnd f x with
    | .ptr k off => match P.underlying t with
      | some (.struct fs) => match fs[i]? with
        | some fd => match sizeT P fd.type with
          | some (_ + 1) => some (.ptr k (off + fd.offset))
          | _ => none
        | none => none
      | _ => none
    | _ => none
noncomputable def wlField (P : Program) (f : Fr) (t : TypeId) (x : Operand) (i : Nat) : Option AV := match opnd f x with
    | .agg vs => match P.underlying t with
      | some (.struct fs) => match fs[i]? with
        | some fd => (partOf P fd.type vs fd.offset)
        | none => none
      | _ => none
    | _ => none
noncomputable def wlIndexAddr (P : Program) (f : Fr) (t : TypeId) (x ix : Operand) : Option AV := match opnd f ix, opnd f x with
    | .lit (.int _ (.ofNat i)), .sl k off len _ _ => match P.underlying t with
      | some (.slice e) => match Nat.blt i len, sizeT P e with
        | true, some n => some (.ptr k (off + i * n))
        | _, _ => none
      | _ => none
    | .lit (.int _ (.ofNat i)), .ptr k off => match P.underlying t with
      | some (.array len e) => match Nat.blt i len, sizeT P e with
        | true, some n => some (.ptr k (off + i * n))
        | _, _ => none
      | _ => none
    | _, _ => none
noncomputable def wlSlice (P : Program) (f : Fr) (t : TypeId) (x : Operand) (lo hi mx : Option Operand) : Option AV := match opnd f x with
    | .sl k off len cap sz => match P.underlying t with
      | some (.slice e) => match sizeT P e, cap with
        | some n, some c => match bounds3 len c (lo.map (opnd f)) (hi.map (opnd f)) (mx.map (opnd f)) with
          | some (l, h, m) => some (cutSl k off n l h m)
          | none => none
        | some n, none => match mx with
          | some _ => none
          | none => match bounds3 len len (lo.map (opnd f)) (hi.map (opnd f)) none with
            | some (l, h, _) => match Nat.beq l 0 with
              | true => some (.sl k off h none sz)
              | false => match Nat.blt l len && Nat.beq sz n with
                | true => some (.sl k (off + l * n) (h - l) none sz)
                | false => none
            | none => none
        | _, _ => none
      | _ => none
    | .ptr k off => match P.underlying t with
      | some (.array c e) => match sizeT P e, bounds3 c c (lo.map (opnd f)) (hi.map (opnd f)) (mx.map (opnd f)) with
        | some n, some (l, h, m) => some (cutSl k off n l h m)
        | _, _ => none
      | _ => none
    | _ => none
noncomputable def wlMakeFunc (f : Fr) (fn : Fn) (a b : Array Operand) : Option AV := match allL (fun x => isLit (opnd f x)) a.toList && allL (fun x => isLit (opnd f x)) b.toList with
    | true => none
    | false => some (.fn fn (mapL (opnd f) a.toList) (mapL (opnd f) b.toList))
noncomputable def wlIface (P : Program) (f : Fr) (t : TypeId) (x : Operand) : Option AV := match opnd f x with
    | .lit _ => none
    | v => match P.underlying t with
      | some (.interface _) => none
      | some _ => some (.ifc t v)
      | none => none
noncomputable def wlBin (P : Program) (f : Fr) (op : BinOp) (t : TypeId) (x y : Operand) : Option AV := match opnd f x, opnd f y with
    | .ptr _ _, .lit (.pointer none) | .lit (.pointer none), .ptr _ _ => match P.underlying t, op with
      | some (.pointer _), .eql => some (.lit (.bool false))
      | some (.pointer _), .neq => some (.lit (.bool true))
      | _, _ => none
    | .sl _ _ _ _ _, .lit (.slice none _ _) | .lit (.slice none _ _), .sl _ _ _ _ _ => match P.underlying t, op with
      | some (.slice _), .eql => some (.lit (.bool false))
      | some (.slice _), .neq => some (.lit (.bool true))
      | _, _ => none
    | .fn _ _ _, .lit .nilFunc | .lit .nilFunc, .fn _ _ _ => match P.underlying t, op with
      | some (.func _ _ _), .eql => some (.lit (.bool false))
      | some (.func _ _ _), .neq => some (.lit (.bool true))
      | _, _ => none
    | _, _ => none
noncomputable def wlBuild (P : Program) (f : Fr) (t : TypeId) (ps : Array (Nat × Operand)) : Option AV := match allL (fun p => isLit (opnd f p.2)) ps.toList with
    | true => none
    | false => match P.info? t with
      | some i => match i.zero, P.underlying t with
        | some z, some (.struct fs) => match allL (fun fd => (sizeT P fd.type).isSome) fs.toList with
          | true => (fillA (placeF P fs) (mapL .lit z.cells.toList) (mapL (fun p => (p.1, opnd f p.2)) ps.toList)).map mkAgg
          | false => none
        | some z, some (.array _ e) => match sizeT P e with
          | some n => (fillA (fun j => some (j * n, n)) (mapL .lit z.cells.toList) (mapL (fun p => (p.1, opnd f p.2)) ps.toList)).map (mkAgg ·)
          | none => none
        | _, _ => none
      | none => none
noncomputable def wlLen (P : Program) (f : Fr) (args : Array Operand) (argTypes : Array TypeId) : Option AV := match args.toList, argTypes.toList with
    | [x], [t] => match opnd f x, P.underlying t with
      | .sl _ _ len _ _, some (.slice _) => some (.lit (goInt len))
      | .emp, some (.slice _) => some (.lit (goInt 0))
      | _, _ => none
    | _, _ => none
/-- What asks nothing of the world. -/
noncomputable def evalWl0 (P : Program) (f : Fr) (o : Oper) : Option AV :=
  match o.op with
  | .move x | .assign x => some (opnd f x)
  | .pick c a b => wlPick f c a b
  | .extract t i => wlExtract f t i
  | .nilCheck x => wlNil f x
  | .fieldAddr t x i => wlFieldAddr P f t x i
  | .field t x i => wlField P f t x i
  | .indexAddr t x ix => wlIndexAddr P f t x ix
  | .slice t x lo hi mx => wlSlice P f t x lo hi mx
  | .makeFunc fn a b => wlMakeFunc f fn a b
  | .makeInterface t x => wlIface P f t x
  | .binOp op t x y _ => wlBin P f op t x y
  | .build t ps => wlBuild P f t ps
  | .call { callee := .builtin .len, args, argTypes } => wlLen P f args argTypes
  | _ => none
/-- Whole numbers, straight. -/
noncomputable def fastInt (op : BinOp) (k k' : IntKind) (a b : Int) : Option Value :=
  match op with
  | .shl => match Int.decLt b 0 with
    | .isTrue _ => none
    | .isFalse _ => forceI (k.wrap (a * 2 ^ (min b.toNat k.bits))) fun z => some (.int k z)
  | .shr => match Int.decLt b 0 with
    | .isTrue _ => none
    | .isFalse _ => forceI (a.fdiv (2 ^ (min b.toNat k.bits))) fun z => some (.int k z)
  | _ => match decEq k k' with
    | .isFalse _ => none
    | .isTrue _ => match op with
      | .add => forceI (k.wrap (a + b)) fun z => some (.int k z)
      | .sub => forceI (k.wrap (a - b)) fun z => some (.int k z)
      | .mul => forceI (k.wrap (a * b)) fun z => some (.int k z)
      | .quo => match b with
        | .ofNat 0 => none
        | _ => forceI (k.wrap (a.tdiv b)) fun z => some (.int k z)
      | .rem => match b with
        | .ofNat 0 => none
        | _ => forceI (a.tmod b) fun z => some (.int k z)
      | .and => forceN ((BitVec.ofInt k.bits a).toNat &&& (BitVec.ofInt k.bits b).toNat) fun n => forceI (k.wrap n) fun z => some (.int k z)
      | .or => forceN ((BitVec.ofInt k.bits a).toNat ||| (BitVec.ofInt k.bits b).toNat) fun n => forceI (k.wrap n) fun z => some (.int k z)
      | .eql => some (.bool (a == b))
      | .neq => some (.bool (a != b))
      | .lss => some (.bool (a < b))
      | .leq => some (.bool (a ≤ b))
      | .gtr => some (.bool (a > b))
      | .geq => some (.bool (a ≥ b))
      | _ => none
noncomputable def fwBin (f : Fr) (op : BinOp) (x y : Operand) : Option AV := match opnd f x, opnd f y with
    | .lit (.int k a), .lit (.int k' b) => match fastInt op k k' a b with
      | some v => some (.lit v)
      | none => none
    | _, _ => none
noncomputable def fwConv (P : Program) (f : Fr) (src dst : TypeId) (x : Operand) : Option AV := match opnd f x with
    | .lit (.int _ n) => match P.underlying src, P.underlying dst with
      | some _, some (.int k) => forceI (k.wrap n) fun z => some (.lit (.int k z))
      | _, _ => none
    | _ => none
noncomputable def fwIndex (P : Program) (f : Fr) (t : TypeId) (x ix : Operand) : Option AV := match opnd f x, opnd f ix with
    | .lit (.string s), .lit (.int _ (.ofNat i)) => match P.underlying t with
      | some .string => match getO s.data.toList i with
        | some b => forceN b.toNat fun n => some (.lit (.int .u8 (.ofNat n)))
        | none => none
      | _ => none
    | _, _ => none
noncomputable def fwLen (P : Program) (f : Fr) (args : Array Operand) (argTypes : Array TypeId) : Option AV := match args.toList, argTypes.toList with
    | [x], [t] => match opnd f x, P.underlying t with
      | .lit (.string s), some .string => forceN s.size fun n => some (.lit (.int .i64 (.ofNat n)))
      | _, _ => none
    | _, _ => none
noncomputable def fastWl (P : Program) (f : Fr) (o : Oper) : Option AV :=
  match o.op with
  | .binOp op _ x y _ => fwBin f op x y
  | .convert src dst x => fwConv P f src dst x
  | .index t x ix => fwIndex P f t x ix
  | .call { callee := .builtin .len, args, argTypes } => fwLen P f args argTypes
  | _ => none
/-! What is known ahead, of operations and of calls, at values that are letters (sym): a table, looked up. -/
noncomputable def eqL {α : Type} (eq : α → α → Bool) (l : List α) : List α → Bool := List.rec (motive := fun _ => List α → Bool) (fun m => List.rec (motive := fun _ => Bool) true (fun _ _ _ => false) m) (fun a _ ih m => List.rec (motive := fun _ => Bool) false (fun b r _ => Bool.rec false (ih r) (eq a b)) m) l
noncomputable def bytesL (b : ByteArray) : List Nat := mapL (fun x => x.toNat) b.data.toList
noncomputable def eqV1 : Value → Value → Bool
  | .bool a, .bool b => a == b
  | .int k a, .int k' b => decide (k = k') && decide (a = b)
  | .float k a, .float k' b => decide (k = k') && Nat.beq a b
  | .complex k a c, .complex k' b d => decide (k = k') && (Nat.beq a b && Nat.beq c d)
  | .string a, .string b => eqL Nat.beq (bytesL a) (bytesL b)
  | _, _ => false
noncomputable def eqV : Value → Value → Bool
  | .agg a, .agg b => eqL eqV1 a.toList b.toList
  | a, b => eqV1 a b
noncomputable def eqA1 : AV → AV → Bool
  | .lit a, .lit b => eqV a b
  | .sym i, .sym j => Nat.beq i j
  | _, _ => false
noncomputable def eqA : AV → AV → Bool
  | .agg a, .agg b => eqL eqA1 a b
  | .row n o a, .row m p b => Nat.beq n m && (Nat.beq o p && eqL eqA1 a b)
  | a, b => eqA1 a b
noncomputable def ground1 : AV → Bool
  | .lit _ | .sym _ => true
  | _ => false
noncomputable def ground2 : AV → Bool
  | .agg a => allL ground1 a
  | a => ground1 a
noncomputable def ground : AV → Bool
  | .tup a => allL ground2 a
  | a => ground2 a
noncomputable def groundA : AV → Bool
  | .row _ _ a => allL ground1 a
  | a => ground a
/-- A row of the run's own, by what stands in it. -/
noncomputable def flat1 (s : AS) : AV → AV
  | .sl k off len c sz => match look k s.h with
    | some b => .row len off (dropL b off)
    | none => .sl k off len c sz
  | v => v
noncomputable def binKey : BinOp → Nat
  | .add => 0 | .sub => 1 | .mul => 2 | .quo => 3 | .rem => 4 | .and => 5 | .or => 6 | .xor => 7 | .shl => 8 | .shr => 9 | .andNot => 10
  | .eql => 11 | .neq => 12 | .lss => 13 | .leq => 14 | .gtr => 15 | .geq => 16
noncomputable def unKey : UnOp → Nat
  | .neg => 0 | .xor => 1 | .not => 2 | .plus => 3
noncomputable def biKey : Builtin → Option Nat
  | .len => some 0 | .real => some 1 | .imag => some 2 | .complex => some 3
  | _ => none
/-- An operation's kind, and at what it looks. -/
noncomputable def keyOf (o : Oper) : Option (List Nat × List Operand) := match o.op with
  | .binOp op t x y _ => some ([0, binKey op, t], [x, y])
  | .unOp op t x => some ([1, unKey op, t], [x])
  | .convert src dst x => some ([2, src, dst], [x])
  | .index t x ix => some ([3, t], [x, ix])
  | .slice t x (some lo) none none => some ([4, t], [x, lo])
  | .slice t x none (some hi) none => some ([5, t], [x, hi])
  | .call { callee := .builtin b, args, argTypes } => match biKey b with
    | some k => some (6 :: k :: o.type :: argTypes.toList, args.toList)
    | none => none
  | .call { callee := .value (.func g), args, .. } => some ([7, g], args.toList)
  | _ => none
class Know where
  ops : List (List Nat × List AV × AV)
  calls : List (FuncId × List AV × AV)
noncomputable def findK (k : List Nat) (l : List AV) (t : List (List Nat × List AV × AV)) : Option AV := List.rec (motive := fun _ => Option AV) none (fun p _ ih => match eqL Nat.beq k p.1 with
  | true => match eqL eqA l p.2.1 with
    | true => some p.2.2
    | false => ih
  | false => ih) t
noncomputable def findC (g : FuncId) (l : List AV) (t : List (FuncId × List AV × AV)) : Option AV := List.rec (motive := fun _ => Option AV) none (fun p _ ih => match Nat.beq g p.1 with
  | true => match eqL eqA l p.2.1 with
    | true => some p.2.2
    | false => ih
  | false => ih) t
noncomputable def knowOp [Know] (f : Fr) (o : Oper) : Option AV := match keyOf o with
  | some (k, xs) => findK k (mapL (opnd f) xs) Know.ops
  | none => none
noncomputable def knowCall [Know] (call : CallE) : CallE := fun floor g l s => match findC g (mapL (flat1 s) l) Know.calls with
  | some r => some (r, s)
  | none => call floor g l s
noncomputable def evalWl [Know] (P : Program) (f : Fr) (o : Oper) : Option AV :=
  match fastWl P f o with
  | some v => some v
  | none => match evalWl0 P f o with
    | some v => some v
    | none => match evalPure P f o with
      | some (.value v) => some (.lit v)
      | _ => knowOp f o
noncomputable def memLoad (P : Program) (f : Fr) (t : TypeId) (a : Operand) (s : AS) : Option (AV × AS) := match opnd f a with
    | .ptr k off => match look k s.h with
      | some b => (partOf P t b off).map (·, s)
      | none => none
    | .lit (.pointer (some ⟨g, off, none⟩)) => match look g s.gl, isRowT P t with
      | some b, some false => match getO b off with
        | some v => some (v, s)
        | none => none
      | _, _ => none
    | _ => none
noncomputable def memStore (P : Program) (floor : Nat) (f : Fr) (t : TypeId) (a x : Operand) (s : AS) : Option (AV × AS) := match opnd f a with
    | .ptr k off => match look k s.h, Nat.ble floor k, sizeT P t with
      | some b, true, some n =>
        let cs := (opnd f x).cells
        match Nat.beq (lenL cs) n && (Nat.ble (off + n) (lenL b) && allL (·.one) cs) with
        | true => some (.lit undef, ⟨s.n, upd k (appL (takeL b off) (appL cs (dropL b (off + n)))) s.h, addW k s.wr, s.gl⟩)
        | false => none
      | _, _, _ => none
    | _ => none
noncomputable def memAlloc (P : Program) (t : TypeId) (s : AS) : Option (AV × AS) := match P.info? t with
    | some i => match i.zero with
      | some z => some (.ptr s.n 0, newB s (mapL .lit z.cells.toList))
      | none => none
    | none => none
noncomputable def memMake (P : Program) (f : Fr) (t : TypeId) (l c : Operand) (s : AS) : Option (AV × AS) := match opnd f l, opnd f c with
    | .lit (.int _ (.ofNat l)), .lit (.int _ (.ofNat c)) => match P.underlying t with
      | some (.slice e) => match P.info? e with
        | some i => match i.zero with
          | some z => match Nat.ble l c && (Nat.ble c 1000000 && Nat.ble i.bytes 100000000) with
            | true => some (.sl s.n 0 l (some c) 0, newB s (zeros z.cells (c * i.size)))
            | false => none
          | none => none
        | none => none
      | _ => none
    | _, _ => none
noncomputable def memBuild (P : Program) (f : Fr) (t : TypeId) (len : Nat) (ps : Array (Nat × Operand)) (s : AS) : Option (AV × AS) := match P.underlying t with
    | some (.slice e) => match P.info? e with
      | some i => match i.zero with
        | some z => match Nat.ble (len * i.size) 16777216 with
          | true => match fillA (fun j => some (j * i.size, i.size)) (zeros z.cells (len * i.size)) (mapL (fun p => (p.1, opnd f p.2)) ps.toList) with
            | some cs => some (.sl s.n 0 len (some len) 0, newB s cs)
            | none => none
          | false => none
        | none => none
      | none => none
    | _ => none
noncomputable def memConv (P : Program) (f : Fr) (src dst : TypeId) (x : Operand) (s : AS) : Option (AV × AS) := match opnd f x with
    | .sl k off len cap sz => match P.underlying src, P.underlying dst with
      | some (.slice e), some .string => match P.underlying e with
        | some (.int .u8) => match (firstA s 1 len (.sl k off len cap sz)).bind bytesOf with
          | some l => some (.lit (.string ⟨l.toArray⟩), s)
          | none => none
        | _ => none
      | _, _ => none
    | .lit (.string b) => match P.underlying src, P.underlying dst with
      | some .string, some (.slice e) => match P.underlying e with
        | some (.int .u8) => some (.sl s.n 0 b.size none 1, newB s (mapL (fun x => .lit (.int .u8 x.toNat)) b.data.toList))
        | _ => none
      | _, _ => none
    | _ => none
noncomputable def memApp (P : Program) (floor : Nat) (f : Fr) (args : Array Operand) (argTypes : Array TypeId) (s : AS) : Option (AV × AS) := match args.toList, argTypes.toList with
    | [x, y], [t, u] => evalAppend P floor t u (opnd f x) (opnd f y) s
    | _, _ => none
noncomputable def memCopy (P : Program) (floor : Nat) (f : Fr) (args : Array Operand) (argTypes : Array TypeId) (s : AS) : Option (AV × AS) := match args.toList, argTypes.toList with
    | [x, y], [t, _] => match P.underlying t with
      | some (.slice e) => match sizeT P e, opnd f x, lenOfSlice (opnd f y) with
        | some size, .sl k off len _ _, some m => match look k s.h, Nat.ble floor k, firstA s size (Nat.min m len) (opnd f y) with
          | some b, true, some src => match Nat.ble (off + lenL src) (lenL b) && allL (·.one) src with
            | true => some (.lit (goInt (Nat.min m len)), ⟨s.n, upd k (appL (takeL b off) (appL src (dropL b (off + lenL src)))) s.h, addW k s.wr, s.gl⟩)
            | false => none
          | _, _, _ => none
        | _, _, _ => none
      | _ => none
    | _, _ => none
/-- What reads or makes memory. -/
noncomputable def evalMem (P : Program) (floor : Nat) (f : Fr) (o : Oper) (s : AS) : Option (AV × AS) :=
  match o.op with
  | .load t a => memLoad P f t a s
  | .store t a x => memStore P floor f t a x s
  | .alloc t => memAlloc P t s
  | .box t x => some (.ptr s.n 0, newB s ((opnd f x).cells))
  | .makeSlice t l c => memMake P f t l c s
  | .buildSlice t len ps => memBuild P f t len ps s
  | .convert src dst x => memConv P f src dst x s
  | .call { callee := .builtin .append, args, argTypes } => memApp P floor f args argTypes s
  | .call { callee := .builtin .copy, args, argTypes } => memCopy P floor f args argTypes s
  | _ => none
/-- A function that is entered as it is. -/
noncomputable def entered (P : Program) (g : FuncId) : Bool := match P.funcs[g]? with
  | some fn => fn.body.isSome && !(fn.name == "runtime.NumGoroutine")
  | none => false
noncomputable def calleeOf : AV → Option (FuncId × List AV × List AV)
  | .lit (.func (.func g) a b) => some (g, mapL .lit a.toList, mapL .lit b.toList)
  | .fn (.func g) a b => some (g, a, b)
  | _ => none
/-- A method of a value behind an interface. -/
noncomputable def methodOf (P : Program) (x : AV) (name : String) (args : List AV) : Option (FuncId × List AV) := match x with
  | .lit (.iface t v) => match runPure P (method (P.types.size + Made.depth) t v name) with
    | some (g, r) => match entered P g with
      | true => some (g, .lit r :: args)
      | false => none
    | none => none
  | _ => none
/-- A call of a function that is entered: by name, or by a value that is known. -/
noncomputable def callOf (P : Program) (f : Fr) (o : Oper) : Option (FuncId × List AV) :=
  match o.op with
  | .call { callee := .value x, args, .. } => match calleeOf (opnd f x) with
    | some (g, a, b) => match entered P g with
      | true => some (g, appL a (appL (mapL (opnd f) args.toList) b))
      | false => none
    | none => none
  | .call { callee := .invoke x name, args, .. } => methodOf P (opnd f x) name (mapL (opnd f) args.toList)
  | _ => none
noncomputable def evalOp0 [Know] (P : Program) (call : CallE) (floor : Nat) (f : Fr) (o : Oper) (s : AS) : Option (AV × AS) :=
  match callOf P f o with
  | some (g, l) => call floor g l s
  | none => match evalMem P floor f o s with
    | some r => some r
    | none => match evalWl P f o with
      | some v => some (v, s)
      | none => none
/-- What is left when neither calls nor memory have it. -/
noncomputable def wlOp [Know] (P : Program) (f : Fr) (o : Oper) (s : AS) : Option (AV × AS) := match evalWl P f o with
  | some v => some (v, s)
  | none => none
noncomputable def pureOp [Know] (P : Program) (f : Fr) (o : Oper) (s : AS) : Option (AV × AS) := match evalPure P f o with
  | some (.value v) => some (.lit v, s)
  | _ => match knowOp f o with
    | some v => some (v, s)
    | none => none
noncomputable def orMem (r d : Option (AV × AS)) : Option (AV × AS) := Option.rec (motive := fun _ => Option (AV × AS)) d (fun x => some x) r
noncomputable def orWl (r : Option AV) (s : AS) (d : Option (AV × AS)) : Option (AV × AS) := Option.rec (motive := fun _ => Option (AV × AS)) d (fun v => some (v, s)) r
/-- An operation, made ready once. -/
structure OpF where
  fn : CallE → Nat → Fr → AS → Option (AV × AS)
noncomputable def callOp [Know] (P : Program) (x : Operand) (args : List Operand) (call : CallE) (floor : Nat) (f : Fr) (o : Oper) (s : AS) : Option (AV × AS) := match calleeOf (opnd f x) with
  | some (g, a, b) => match entered P g with
    | true => call floor g (appL a (appL (mapL (opnd f) args) b)) s
    | false => pureOp P f o s
  | none => pureOp P f o s
noncomputable def compOp [Know] (P : Program) (o : Oper) : OpF := match o.op with
  | .move x | .assign x => ⟨fun _ _ f s => some (opnd f x, s)⟩
  | .load t a => ⟨fun _ _ f s => orMem (memLoad P f t a s) (pureOp P f o s)⟩
  | .store t a x => ⟨fun _ floor f s => orMem (memStore P floor f t a x s) (pureOp P f o s)⟩
  | .extract t i => ⟨fun _ _ f s => orWl (wlExtract f t i) s (pureOp P f o s)⟩
  | .fieldAddr t x i => ⟨fun _ _ f s => orWl (wlFieldAddr P f t x i) s (pureOp P f o s)⟩
  | .field t x i => ⟨fun _ _ f s => orWl (wlField P f t x i) s (pureOp P f o s)⟩
  | .indexAddr t x ix => ⟨fun _ _ f s => orWl (wlIndexAddr P f t x ix) s (pureOp P f o s)⟩
  | .nilCheck x => ⟨fun _ _ f s => orWl (wlNil f x) s (pureOp P f o s)⟩
  | .pick c x y => ⟨fun _ _ f s => orWl (wlPick f c x y) s (pureOp P f o s)⟩
  | .binOp op t x y _ => ⟨fun _ _ f s => orWl (fwBin f op x y) s (orWl (wlBin P f op t x y) s (pureOp P f o s))⟩
  | .index t x ix => ⟨fun _ _ f s => orWl (fwIndex P f t x ix) s (pureOp P f o s)⟩
  | .convert src dst x => ⟨fun _ _ f s => orMem (memConv P f src dst x s) (orWl (fwConv P f src dst x) s (pureOp P f o s))⟩
  | .call { callee := .value x, args, .. } => ⟨fun call floor f s => callOp P x args.toList call floor f o s⟩
  | .call { callee := .builtin .len, args, argTypes } => ⟨fun _ _ f s => orWl (fwLen P f args argTypes) s (orWl (wlLen P f args argTypes) s (pureOp P f o s))⟩
  | .call { callee := .builtin .append, args, argTypes } => ⟨fun _ floor f s => orMem (memApp P floor f args argTypes s) (pureOp P f o s)⟩
  | _ => ⟨fun call floor f s => evalOp0 P call floor f o s⟩
noncomputable def evalOp [Know] (P : Program) (call : CallE) (floor : Nat) (f : Fr) (o : Oper) (s : AS) : Option (AV × AS) := OpF.rec (motive := fun _ => Option (AV × AS)) (fun fn => fn call floor f s) (compOp P o)
theorem orMem_eq (r d : Option (AV × AS)) : orMem r d = match r with
    | some x => some x
    | none => d := by cases r <;> rfl
theorem orWl_eq (r : Option AV) (s : AS) (d : Option (AV × AS)) : orWl r s d = match r with
    | some v => some (v, s)
    | none => d := by cases r <;> rfl
theorem evalOp_eq [Know] (P : Program) (call : CallE) (floor : Nat) (f : Fr) (o : Oper) (s : AS) : evalOp P call floor f o s = evalOp0 P call floor f o s := by
  obtain ⟨dst, op, type, pos, after, guard⟩ := o
  unfold evalOp compOp
  simp only
  split
  case h_17 => rfl
  all_goals
    simp only [orMem_eq, orWl_eq, pureOp, callOp, evalOp0, callOf, evalMem, evalWl, fastWl, evalWl0]
    try (repeat' split)
    all_goals first
      | rfl
      | simp_all
noncomputable def putA (f : Fr) : Option Tmp → AV → Fr
  | none, _ => f
  | some d, v => setF v f d
noncomputable def yieldedA (ops : Array Oper) (f : Fr) (j : Nat) : Option Bool :=
  match (ops[j]?).bind (·.dst) with
  | some d => match getF f d with
    | .lit (.bool b) => some b
    | _ => none
  | none => none
noncomputable def symAt (ops : Array Oper) (f : Fr) (j : Nat) : Bool := match (ops[j]?).bind (·.dst) with
  | some d => match getF f d with
    | .sym _ => true
    | _ => false
  | none => false
noncomputable def wantA (ops : Array Oper) (f : Fr) (o : Oper) : Option Bool := match o.guard with
  | none => some true
  | some (j, b) => match symAt ops f j with
    | true => none
    | false => some (yieldedA ops f j == some b)
/-- One operation behind the other, in the order of the text. -/
noncomputable def evalSeq [Know] (P : Program) (call : CallE) (floor : Nat) (ops : Array Oper) (l : List Oper) : Fr → AS → Option (Fr × AS) :=
  List.rec (motive := fun _ => Fr → AS → Option (Fr × AS)) (fun f s => some (f, s)) (fun o _ ih f s => match wantA ops f o with
    | some true => match evalOp P call floor f o s with
      | some (v, s') => ih (putA f o.dst v) s'
      | none => none
    | some false => ih (putA f o.dst (.lit undef)) s
    | none => none) l
/-- May this operation be taken first? -/
noncomputable def early (o : Oper) : Bool := match o.op with
  | .move _ | .assign _ | .pick .. | .extract .. | .fieldAddr .. | .field .. | .indexAddr .. | .slice .. | .binOp .. | .unOp .. | .nilCheck _ | .build .. | .index .. | .makeInterface .. | .convert .. => true
  | .call { callee := .builtin b, .. } => match b with
    | .len | .cap | .complex | .real | .imag | .min | .max => true
    | _ => false
  | _ => false
inductive Stp where
  | early (i : Nat)
  | held (i : Nat)
  | solo (i : Nat)
  | flo (i : Nat)
  | pair (i j : Nat)
noncomputable def isLoad (o : Oper) : Bool := match o.op with
  | .load .. => true
  | _ => false
/-- The operations that this one waits for, as the bits of a number. -/
noncomputable def depM (o : Oper) : Nat := o.after.toList.foldr (fun e m => if Region.binds .any e then m ||| (2 ^ e.on) else m) 0
/-- The temporaries at which it looks. -/
noncomputable def lookM (ops : Array Oper) (o : Oper) : Nat := (o.looksAt ops).foldr (fun t m => m ||| (2 ^ t)) 0
structure Rec where
  i : Nat
  o : Oper
  deps : Nat
  looks : Nat
noncomputable def recs (ops : Array Oper) : List Oper → Nat → List Rec
  | [], _ => []
  | o :: r, i => ⟨i, o, depM o, lookM ops o⟩ :: recs ops r (i + 1)
noncomputable def hitM (d : Option Tmp) (m : Nat) : Bool := match d with
  | some d => m.testBit d
  | none => false
noncomputable def sameD (a b : Option Tmp) : Bool := match a, b with
  | some x, some y => Nat.beq x y
  | _, _ => false
noncomputable def apartR (x y : Rec) : Bool := !hitM x.o.dst y.looks && (!sameD x.o.dst y.o.dst && !hitM y.o.dst x.looks)
noncomputable def readyR (m : Nat) (r : Rec) : Bool := Nat.beq (r.deps &&& m) r.deps
noncomputable def freeR (l : List Rec) (r : Rec) : Bool := allL (fun q => Nat.beq q.i r.i || (q.deps.testBit r.i || apartR r q)) l
noncomputable def without (i : Nat) (l : List Rec) : List Rec := List.rec (motive := fun _ => List Rec) [] (fun r _ ih => Bool.rec (r :: ih) ih (Nat.beq r.i i)) l
noncomputable def firstR (t : Oper → Bool) (m : Nat) (all : List Rec) (l : List Rec) : Option Rec :=
  List.rec (motive := fun _ => Option Rec) none (fun r _ ih => Bool.rec ih (some r) (t r.o && (readyR m r && freeR all r))) l
noncomputable def readyL (m : Nat) (l : List Rec) : List Rec := List.rec (motive := fun _ => List Rec) [] (fun r _ ih => Bool.rec ih (r :: ih) (readyR m r)) l
noncomputable def pairR (m : Nat) (l : List Rec) (a b : Rec) : Bool :=
  isLoad a.o && isLoad b.o && a.o.guard.isNone && b.o.guard.isNone && apartR a b &&
    allL (fun q => Nat.beq q.i a.i || (Nat.beq q.i b.i || (!readyR (m ||| 2 ^ a.i) q && !readyR (m ||| 2 ^ b.i) q))) l
/-- A new cell that may be made at any time. -/
noncomputable def isAlloc (o : Oper) : Bool := match o.op, o.guard, o.dst with
  | .alloc _, none, some _ => true
  | _, _, _ => false
noncomputable def floR (all : List Rec) (r : Rec) : Bool := isAlloc r.o && (Nat.beq r.deps 0 && freeR all r)
/-- The floating ones, as bits. -/
noncomputable def floM (all l : List Rec) : Nat := List.rec (motive := fun _ => Nat) 0 (fun r _ ih => Bool.rec ih (ih ||| 2 ^ r.i) (floR all r)) l
/-- One round of: what these wait for. -/
noncomputable def stepM (c : Nat) (l : List Rec) : Nat := List.rec (motive := fun _ => Nat) c (fun r _ ih => Bool.rec ih (ih ||| r.deps) (c.testBit r.i)) l
noncomputable def closM (all : List Rec) (n m : Nat) : Nat := Nat.rec (motive := fun _ => Nat) m (fun _ c => stepM c all) n
/-- Does one wait for the other, through whatever others? -/
noncomputable def waitsR (all : List Rec) (q : Rec) (i : Nat) : Bool := q.deps.testBit i || (closM all 8 q.deps).testBit i
/-- The floating ones that have not come up, but for one. -/
noncomputable def pendM (fs i : Nat) (l : List Rec) : Nat := List.rec (motive := fun _ => Nat) 0 (fun q _ ih => Bool.rec ih (ih ||| 2 ^ q.i) (fs.testBit q.i && !Nat.beq q.i i)) l
/-- What waits for a floating one waits for this one, too. -/
noncomputable def wtB (fs : Nat) (all l : List Rec) (i : Nat) : Bool := Nat.beq fs 0 || allL (fun q => Nat.beq (q.deps &&& pendM fs i l) 0 || waitsR all q i) l
noncomputable def plain (fs : Nat) (l : List Rec) : List Rec := List.rec (motive := fun _ => List Rec) [] (fun r _ ih => Bool.rec (r :: ih) ih (fs.testBit r.i)) l
/-- fs: the floating ones, as bits; m: what has come up; l: what has not. -/
noncomputable def planGo (fs : Nat) (all : List Rec) : Nat → Nat → List Rec → Option (List Stp)
  | 0, m, l => match readyL m l with
    | [] => some []
    | _ => none
  | n + 1, m, l => match firstR early m l l with
    | some r => match fs.testBit r.i, planGo fs all n (m ||| 2 ^ r.i) (without r.i l) with
      | false, some p => some (.early r.i :: p)
      | _, _ => none
    | none => match plain fs (readyL m l) with
      | [] => match readyL m l with
        | [] => some []
        | r :: _ => match wtB fs all l r.i, planGo fs all n (m ||| 2 ^ r.i) (without r.i l) with
          | true, some p => some (.flo r.i :: p)
          | _, _ => none
      | [r] => match wtB fs all l r.i with
        | true => match planGo fs all n (m ||| 2 ^ r.i) (without r.i l) with
          | some p => some (.solo r.i :: p)
          | none => none
        | false => match firstR isLoad m l l with
          | none => none
          | some r => match fs.testBit r.i, planGo fs all n (m ||| 2 ^ r.i) (without r.i l) with
            | false, some p => some (.held r.i :: p)
            | _, _ => none
      | a :: b :: more => match firstR isLoad m l l with
        | none => none
        | some r => match more, n, Nat.beq fs 0 && pairR m l a b with
          | [], n + 1, true => match planGo fs all n ((m ||| 2 ^ a.i) ||| 2 ^ b.i) (without b.i (without a.i l)) with
            | some p => some (.pair a.i b.i :: p)
            | none => none
          | _, n, _ => match fs.testBit r.i, planGo fs all n (m ||| 2 ^ r.i) (without r.i l) with
            | false, some p => some (.held r.i :: p)
            | _, _ => none
/-- An order that stands for every order. -/
noncomputable def planW (ops : Array Oper) (all : List Rec) : Option (Nat × List Stp) := match planGo 0 all ops.size 0 all with
  | some p => some (0, p)
  | none => match planGo (floM all all) all ops.size 0 all with
    | some p => some (floM all all, p)
    | none => none
noncomputable def plan (ops : Array Oper) : Option (Nat × List Stp) := match Region.noSelect ops with
  | true => planW ops (recs ops ops.toList 0)
  | false => none
noncomputable def isHeld : Stp → Bool
  | .held _ => true
  | _ => false
noncomputable def hasK (l : List (Nat × Nat)) (k : Nat) : Bool := List.rec (motive := fun _ => Bool) false (fun a _ ih => Bool.rec ih true (Nat.beq a.2 k)) l
/-- Each read, taken ahead, of a block that is written here is waited for. -/
noncomputable def waitsAll (ops : Array Oper) (i : Nat) (ws : List Nat) (kl : List (Nat × Nat)) : Bool :=
  allL (fun p => !hasN ws p.2 || match ops[i]? with
    | some o => waitsR (recs ops ops.toList 0) ⟨i, o, depM o, 0⟩ p.1
    | none => false) kl
noncomputable def evalHeld (P : Program) (f : Fr) (o : Oper) (s : AS) : Option (AV × Nat) := match o.op with
  | .load t a => match opnd f a with
    | .ptr k off => match look k s.h with
      | some b => match partOf P t b off with
        | some v => some (v, k)
        | none => none
      | none => none
    | _ => none
  | _ => none
/-- kl: what is read ahead of its turn, with its block; tl: what was written. -/
noncomputable def planOne [Know] (P : Program) (call : CallE) (s0 : AS) (floor : Nat) (ops : Array Oper) (t : Stp) (f : Fr) (s : AS) (kl tl : List (Nat × Nat)) : Option (Fr × AS × List (Nat × Nat) × List (Nat × Nat)) :=
  match t with
  | .early i => match ops[i]? with
    | some o => match wantA ops f o with
      | some true => match evalWl P f o with
        | some v => some (putA f o.dst v, s, kl, tl)
        | none => none
      | some false => some (putA f o.dst (.lit undef), s, kl, tl)
      | none => none
    | none => none
  | .held i => match ops[i]? with
    | some o => match wantA ops f o with
      | some true => match evalHeld P f o s with
        | some (v, k) => match look k s0.h, hasK tl k with
          | some _, false => some (putA f o.dst v, s, (i, k) :: kl, tl)
          | _, _ => none
        | none => none
      | some false => some (putA f o.dst (.lit undef), s, kl, tl)
      | none => none
    | none => none
  | .solo i => match ops[i]? with
    | some o => match wantA ops f o with
      | some true => match evalOp P call floor f o ⟨s.n, s.h, [], s.gl⟩ with
        | some (v, s') => match waitsAll ops i s'.wr kl with
          | true => some (putA f o.dst v, ⟨s'.n, s'.h, unionW s'.wr s.wr, s'.gl⟩, kl, appL (mapL (fun k => (i, k)) s'.wr) tl)
          | false => none
        | none => none
      | some false => some (putA f o.dst (.lit undef), s, kl, tl)
      | none => none
    | none => none
  | .flo i => match ops[i]? with
    | some o => match o.op with
      | .alloc t => match P.info? t with
        | some inf => match inf.zero with
          | some z => some (putA f o.dst (.ptr s.n 0), newB s (mapL .lit z.cells.toList), kl, tl)
          | none => none
        | none => none
      | _ => none
    | none => none
  | .pair i j => match ops[i]?, ops[j]? with
    | some a, some b => match evalHeld P f a s, evalHeld P f b s with
      | some (u, _), some (v, _) => some (putA (putA f a.dst u) b.dst v, s, kl, tl)
      | _, _ => none
    | _, _ => none
noncomputable def evalPlan [Know] (P : Program) (call : CallE) (s0 : AS) (floor : Nat) (ops : Array Oper) (l : List Stp) : Fr → AS → List (Nat × Nat) → List (Nat × Nat) → Option (Fr × AS × List (Nat × Nat)) :=
  List.rec (motive := fun _ => Fr → AS → List (Nat × Nat) → List (Nat × Nat) → Option (Fr × AS × List (Nat × Nat))) (fun f s _ tl => some (f, s, tl)) (fun t _ ih f s kl tl =>
    match planOne P call s0 floor ops t f s kl tl with
    | some (f', s', kl', tl') => ih f' s' kl' tl'
    | none => none) l
/-- The floating ones have a nought. -/
noncomputable def zeroB (P : Program) (o : Oper) : Bool := match o.op with
  | .alloc t => match P.info? t with
    | some inf => inf.zero.isSome
    | none => false
  | _ => true
noncomputable def evalRegion [Know] (P : Program) (call : CallE) (floor : Nat) (ops : Array Oper) (draw : Bool) (f : Fr) (s : AS) : Option (Fr × AS) :=
  match draw with
  | false => evalSeq P call floor ops ops.toList f s
  | true => match plan ops with
    | some (fs, pl) => match Nat.beq fs 0 || allL (zeroB P) ops.toList with
      | true => match evalPlan P call s floor ops pl f s [] [] with
        | some (f', s', _) => some (f', s')
        | none => none
      | false => none
    | none => none
inductive AX where
  | normal
  | exit (id : Nat)
  | goto (l : Nat)
  | ret
abbrev CodeE := Nat → Code → Fr → AS → Option (AX × Fr × AS)
structure Ev where
  code : CodeE
  loop : CodeE
  scope : Nat → Code → Code → Fr → AS → Option (AX × Fr × AS)
  call : CallE
noncomputable def codeRegion [Know] (P : Program) (E : Ev) (floor : Nat) (ops : Array Oper) (draw : Bool) (f : Fr) (s : AS) : Option (AX × Fr × AS) := match evalRegion P E.call floor ops draw f s with
  | some (f', s') => forceF f' fun f'' => some (.normal, f'', s')
  | none => none
noncomputable def codeSeq (E : Ev) (floor : Nat) (a b : Code) (f : Fr) (s : AS) : Option (AX × Fr × AS) := match E.code floor a f s with
  | some (.normal, f', s') => E.code floor b f' s'
  | r => r
noncomputable def codeCond (E : Ev) (floor : Nat) (o : Operand) (a b : Code) (f : Fr) (s : AS) : Option (AX × Fr × AS) := match opnd f o with
  | .lit (.bool true) => E.code floor a f s
  | .lit (.bool false) => E.code floor b f s
  | _ => none
noncomputable def codeBlock (E : Ev) (floor id : Nat) (c : Code) (f : Fr) (s : AS) : Option (AX × Fr × AS) := match E.code floor c f s with
  | some (.exit j, f', s') => match Nat.beq j id with
    | true => some (.normal, f', s')
    | false => some (.exit j, f', s')
  | r => r
noncomputable def codeStep [Know] (P : Program) (E : Ev) (floor : Nat) (c : Code) (f : Fr) (s : AS) : Option (AX × Fr × AS) :=
  match c with
  | .skip => some (.normal, f, s)
  | .label _ => some (.normal, f, s)
  | .region _ ops draw => codeRegion P E floor ops draw f s
  | .seq a b => codeSeq E floor a b f s
  | .cond o a b => codeCond E floor o a b f s
  | .block id c => codeBlock E floor id c f s
  | .loop c => E.loop floor c f s
  | .scope c => E.scope floor c c f s
  | .exit id => some (.exit id, f, s)
  | .goto l => some (.goto l, f, s)
  | .ret => some (.ret, f, s)
  | _ => none
noncomputable def loopStep (E : Ev) (floor : Nat) (c : Code) (f : Fr) (s : AS) : Option (AX × Fr × AS) :=
  match E.code floor c f s with
  | some (.normal, f', s') => E.loop floor c f' s'
  | r => r
noncomputable def scopeStep (E : Ev) (floor : Nat) (c cur : Code) (f : Fr) (s : AS) : Option (AX × Fr × AS) :=
  match E.code floor cur f s with
  | some (.goto l, f', s') => match findLabel c l with
    | some rest => E.scope floor c rest f' s'
    | none => some (.goto l, f', s')
  | r => r
noncomputable def resA (P : Program) (f : Fr) (s : AS) : List ResultVar → Option (List AV)
  | [] => some []
  | .tmp t :: r => match resA P f s r with
    | some l => some (getF f t :: l)
    | none => none
  | .cell a t :: r => match getF f a with
    | .ptr k off => match look k s.h with
      | some b => match partOf P t b off, resA P f s r with
        | some v, some l => some (v :: l)
        | _, _ => none
      | none => none
    | _ => none
noncomputable def frame (m : Nat) (args : List AV) : Fr := forceN (lenL args + (m - lenL args)) fun n => ⟨n, trInit args 0 (trFull (Nat.log2 n + 1))⟩
noncomputable def callStep (P : Program) (E : Ev) (floor : Nat) (g : FuncId) (args : List AV) (s : AS) : Option (AV × AS) :=
  match P.funcs[g]? with
  | some fn => match fn.body with
    | some c => match E.code floor c (frame fn.ntmps args) ⟨s.n, s.h, [], s.gl⟩ with
      | some (.normal, f', s') | some (.ret, f', s') => match resA P f' s' fn.results.toList with
        | some [v] => match isLit v && allL isLit args with
          | true => some (v, ⟨s'.n, dropNew s.n s'.h, unionW (oldW s.n s'.wr) s.wr, s'.gl⟩)
          | false => some (v, ⟨s'.n, s'.h, unionW (oldW s.n s'.wr) s.wr, s'.gl⟩)
        | some vs => match isLit (mkTup vs) && allL isLit args with
          | true => some (mkTup vs, ⟨s'.n, dropNew s.n s'.h, unionW (oldW s.n s'.wr) s.wr, s'.gl⟩)
          | false => some (mkTup vs, ⟨s'.n, s'.h, unionW (oldW s.n s'.wr) s.wr, s'.gl⟩)
        | none => none
      | _ => none
    | none => none
  | none => none
noncomputable def evStep [Know] (P : Program) (E : Ev) : Ev := ⟨codeStep P E, loopStep E, scopeStep E, knowCall (callStep P E)⟩
noncomputable def ev [Know] (P : Program) (n : Nat) : Ev := Nat.rec ⟨fun _ _ _ _ => none, fun _ _ _ _ => none, fun _ _ _ _ _ => none, fun _ _ _ _ => none⟩ (fun _ E => evStep P E) n
@[reducible] noncomputable def noKnow : Know := ⟨[], []⟩
/-- What is known of the program's variables. -/
def Globs (gl : List (Nat × List AV)) (w : World) : Prop := ∀ g B, look g gl = some B → g < w.heap.size ∧ ∀ i v, B[i]? = some v → ∃ u, v = .lit u ∧ w.cell? ⟨g, i, none⟩ = some u
/-- What the call comes to. -/
noncomputable def comes [Know] (P : Program) (gl : List (Nat × List AV)) (n : Nat) (g : FuncId) (l : List AV) : Option AV := match (ev P n).call 0 g l ⟨0, [], [], gl⟩ with
  | some (v, _) => some v
  | none => none
/-- What the call comes to is just this bool. -/
noncomputable def saysG (P : Program) (gl : List (Nat × List AV)) (n : Nat) (g : FuncId) (l : List Value) (b : Bool) : Bool := match (@ev noKnow P n).call 0 g (mapL .lit l) ⟨0, [], [], gl⟩ with
  | some (.lit (.bool c), _) => c == b
  | _ => false
noncomputable def saysB (P : Program) (n : Nat) (g : FuncId) (b : Bool) : Bool := saysG P [] n g [] b
end Go.Proofs.YtkbjlijcnlkbgaaDoor
