/- Texts put together: D3 D4 D8 D9 DM D10 D11 D12 D13 D14 D15 D16 D17 D18 P26 P27 P28 P29 P30 DP. -/
import Derived.Test.YtajcapliokblfaaGreatDoorQ3
import Derived.Test.YtajcapliokblfaaGreatDoorQ6
import Derived.BigQuiet
import Derived.Test.YtajcapliokblfaaGreatDoorQ1
import Derived.Deep.RegionLaw
import Derived.Test.YtajcapliokblfaaGreatDoorQ7
import Derived.Test.YtajcapliokblfaaGreatDoorRows
import Derived.ProofKit
import Derived.Lib.SmallJoins
import Derived.OpenShut
import Derived.ShutString
set_option linter.unusedSimpArgs false
set_option linter.unusedVariables false
namespace Go.Proofs.YtajcapliokblfaaGreatDoor
open Go Go.RowKit Nt

set_option maxRecDepth 100000 in
theorem rMay3_zero (w : World) : Calls Tryz.prog 65 #[.agg #[.bool false, .string ⟨#[]⟩, .int .i64 0]] w fun e w' => e = .returned (.bool true) ∧ Below w.heap.size w w' := by
  go_enter Tryz.func65, Tryz.ntmps65
  go_wp2
  go_ret
  exact ⟨rfl, (Below.refl _ _).alloc (Nat.le_refl _) _⟩
theorem nat_first {n : Nat} (hf : fits n) (h : 0 < (natS n).size) : (natS n)[0].toNat ≠ 0 := ((may_natS n).2 hf).2 h
set_option maxRecDepth 100000 in
theorem rMay3_num (g : Bool) (n : Nat) (x : Int) (w : World) (hf : fits n) (ho : n % 2 = 1) (h1 : -1048576 ≤ x) (h2 : x ≤ 1048576) :
    Calls Tryz.prog 65 #[.agg #[.bool g, .string (natS n), .int .i64 x]] w fun e w' => e = .returned (.bool true) ∧ Below w.heap.size w w' := by
  have hE := natS_full (odd_ne ho)
  have hE2 := natS_full2 (odd_ne ho)
  have hsz := natS_size n
  have hL : nd 256 n ≤ 16384 := hf
  have hp := odd_size ho
  have hl : ((natS n)[nd 256 n - 1]'(by omega)).toNat % 2 = 1 := by
    have := last_odd n hp
    simp only [natS_size] at this
    rw [this, ho]
  have hl2 : (((natS n)[nd 256 n - 1]'(by omega)).toNat : Int) % 2 = 1 := by omega
  have hf0 := nat_first hf hp
  have hf1 : ¬ (((natS n)[0]'hp).toNat : Int) = 0 := by omega
  have hf2 : ((((natS n)[0]'hp).toNat : Int) != 0) = true := by rw [bne_iff_ne]; omega
  have HO := Lib.hid ho
  clear ho
  go_enter Tryz.func65, Tryz.ntmps65
  go_wp2
  go_ret
  exact ⟨rfl, (Below.refl _ _).alloc (Nat.le_refl _) _⟩
set_option maxRecDepth 100000 in
theorem rMay3_bad (g : Bool) (s : ByteArray) (x : Int) (w : World) (hs : s.size ≤ 9223372036854775807) (h : ¬ DOk g s x) :
    Calls Tryz.prog 65 #[.agg #[.bool g, .string s, .int .i64 x]] w fun e w' => e = .returned (.bool false) ∧ Below w.heap.size w w' := by
  rcases dbad h with ⟨rfl, hz⟩ | ⟨hp, hz⟩
  · clear h hs
    have hz2 : g = true ∨ (g = false ∧ (x == 0) = false ∧ ¬ x = 0) := by
      rcases hz with rfl | hz
      · exact Or.inl rfl
      · cases g
        · exact Or.inr ⟨rfl, by simpa using hz, hz⟩
        · exact Or.inl rfl
    clear hz
    rcases hz2 with rfl | ⟨rfl, hx, hx2⟩
    all_goals
      go_enter Tryz.func65, Tryz.ntmps65
      go_wp2
      go_ret
      exact ⟨rfl, (Below.refl _ _).alloc (Nat.le_refl _) _⟩
  · have hE := dFull hp
    have hE2 := dFull2 hp
    clear h
    by_cases hbig : 16384 < s.size
    · have hb' : ¬ (s.size : Int) ≤ 16384 := by omega
      clear hz
      go_enter Tryz.func65, Tryz.ntmps65
      go_wp2
      go_ret
      exact ⟨rfl, (Below.refl _ _).alloc (Nat.le_refl _) _⟩
    · have hb' : (s.size : Int) ≤ 16384 := by omega
      have hb'' : s.size ≤ 16384 := by omega
      by_cases h0 : (s[0]'hp).toNat = 0
      · have h0' : (((s[0]'hp).toNat : Int) != 0) = false := by rw [h0]; rfl
        have H0 := Lib.hid h0
        clear hz h0 hbig
        go_enter Tryz.func65, Tryz.ntmps65
        go_wp2
        go_ret
        exact ⟨rfl, (Below.refl _ _).alloc (Nat.le_refl _) _⟩
      · have h0' : (((s[0]'hp).toNat : Int) != 0) = true := by rw [bne_iff_ne]; omega
        have hm : May s := ⟨hb'', fun _ => h0⟩
        rcases hz with hz | ⟨hz, hm' | ⟨_, hx⟩⟩
        · have hl2 : ((s[s.size - 1]'(by omega)).toNat : Int) % 2 = 0 := by omega
          have H0 := Lib.hid h0
          clear hm h0 hz
          go_enter Tryz.func65, Tryz.ntmps65
          go_wp2
          go_ret
          exact ⟨rfl, (Below.refl _ _).alloc (Nat.le_refl _) _⟩
        · exact absurd hm hm'
        · have hl2 : ((s[s.size - 1]'(by omega)).toNat : Int) % 2 = 1 := by omega
          have H0 := Lib.hid h0
          clear hm h0 hz
          rcases hx with hx | hx
          · have hx' : ¬ -1048576 ≤ x := by omega
            go_enter Tryz.func65, Tryz.ntmps65
            go_wp2
            go_ret
            exact ⟨rfl, (Below.refl _ _).alloc (Nat.le_refl _) _⟩
          · have hx' : ¬ x ≤ 1048576 := by omega
            have hx'' : -1048576 ≤ x := by omega
            go_enter Tryz.func65, Tryz.ntmps65
            go_wp2
            go_ret
            exact ⟨congrArg (fun b => Ending.returned (.bool b)) (decide_eq_false (by omega)), (Below.refl _ _).alloc (Nat.le_refl _) _⟩
end Go.Proofs.YtajcapliokblfaaGreatDoor
set_option linter.unusedSimpArgs false
set_option linter.unusedVariables false
namespace Go.Proofs.YtajcapliokblfaaGreatDoor
open Go Go.RowKit Nt

theorem dlget3 (b n L i : Nat) (h : i < (dl b n L).length) : (dl b n L)[i] = dgt b n i := by
  have := dl_get? b n L i (by rw [dl_length] at h; exact h)
  rw [List.getElem?_eq_getElem h] at this
  exact Option.some.inj this
/-- A row of digits that the call made. -/
def BigPost (l : List Nat) (w : World) (e : Ending) (w' : World) : Prop := ∃ v, e = .returned v ∧ Own w' w.heap.size 3 .i64 v l ∧ Below w.heap.size w w'
set_option maxRecDepth 100000 in
set_option maxHeartbeats 1000000 in
theorem rOf3_c (n : Nat) (w : World) (hn : nd 256 n ≤ 1000000000) :
    Calls Tryz.prog 128 #[.string (natS n)] w (BigPost (dl 256 n (nd 256 n)) w) := by
  obtain ⟨i0, hi0, hz0, hj1, hj2⟩ := info_parts (P := Tryz.prog) (e := 3) (z := .int .i64 0) (size := 1) (bytes := 8) (by kernel_rfl)
  have hsz := natS_size n
  obtain ⟨N, hN⟩ : ∃ N, N = nd 256 n := ⟨_, rfl⟩
  have hg := fun k (h : k < (natS n).size) => natS_get n k h
  rw [← hN] at hsz hn hg ⊢
  have HG := Lib.hid hg
  have HN := Lib.hid hN
  clear hN hg
  go_enter Tryz.func128, Tryz.ntmps128
  go_wp2
  go_loopw [3, 4] (fun v i wr => ∃ (k : Nat) (z : Int), k ≤ N ∧ i = .int .i64 z ∧ Hid (z = (N : Int) - 1 - (k : Int)) ∧ Hid (Own wr w.heap.size 3 .i64 v (dl 256 n k)) ∧ Below w.heap.size w wr) (fun _ i _ => (intOf i + 1).toNat)
  case atStart => exact ⟨0, _, Nat.zero_le _, rfl, Lib.hid (by first | rfl | omega | go_num), Lib.hid (Own.nil _ _ _ _), Below.refl _ _⟩
  case round =>
    obtain ⟨k, z, hk, rfl, hz, hown, hb⟩ := hrel
    by_cases h0 : k = N
    · subst h0
      obtain rfl : z = -1 := by have := hz.out; omega
      go_wp2
      go_ret
      exact ⟨_, rfl, hown.out, hb⟩
    · obtain ⟨m, hm⟩ : ∃ m, N = k + 1 + m := ⟨N - k - 1, by omega⟩
      obtain rfl : z = (m : Int) := by have := hz.out; omega
      have hms : m < (natS n).size := by omega
      have e := HG.out m hms
      rw [show N - 1 - m = k by omega] at e
      have hlt := (natS n)[m].toNat_lt
      have hw : wrap64 ((m : Int) - 1) = (m : Int) - 1 := IntWalk.wrap64_in _ (by omega)
      have hlen : Hid ((dl 256 n k).length + 1 ≤ 17592186044416) := Lib.hid (by rw [dl_length]; omega)
      have hm0 : (0 : Int) ≤ (m : Int) := by omega
      have HM := Lib.hid hm
      have HE := Lib.hid e
      have hwc : wrap64 (((natS n)[m].toNat : Nat) : Int) = (((natS n)[m].toNat : Nat) : Int) := IntWalk.wrap64_in _ (by omega)
      clear e hm h0
      go_wp2_with (at_builtin; go_loud (refine wpList_app1 wr rfl (.tmp 12) (.tmp 17) _ rfl w.heap.size 3 3 i0 .i64 8 Tryz.underlying146 hi0 hz0 hj1 hj2 (by omega) _ (dl 256 n k) (natS n)[m].toNat rfl rfl hown.out hlen.out hb.size ?_); intro v5 w5 hown5 hb5 hfr5 hnw5)
      rw [HE.out, ← dl_succ] at hown5
      have HO5 := Lib.hid hown5
      clear hown5 hfr5 hnw5
      go_roundw
      case rel => exact ⟨k + 1, _, by have := HM.out; omega, rfl, Lib.hid (by have := HM.out; omega), HO5, hb.trans hb5⟩
      case measure => simp [intOf]; try omega
end Go.Proofs.YtajcapliokblfaaGreatDoor
set_option linter.unusedSimpArgs false
set_option linter.unusedVariables false
namespace Go.Proofs.YtajcapliokblfaaGreatDoor
open Go Go.RowKit Nt

theorem Own.take {w : World} {B : Nat} {T : TypeId} {k : IntKind} {A : Option Addr} {L c : Nat} {l : List Nat} (h : Own w B T k (.slice A L c) l) {m : Nat} (hm : m ≤ l.length) : Own w B T k (.slice A m c) (l.take m) := by
  have hl : (l.take m).length = m := by rw [List.length_take]; omega
  unfold Own
  rw [hl]
  refine ⟨by simp; omega, ?_⟩
  rcases h.2 with ⟨e, h0⟩ | ⟨g, cap, cur, e, hB, hh, hn, hmx, hs, ht⟩
  · injection e with e1 e2 e3
    refine Or.inl ⟨?_, by omega⟩
    rw [e1, e3, show m = 0 by omega]
  · injection e with e1 e2 e3
    refine Or.inr ⟨g, cap, cur, by rw [e1, e3], hB, hh, by omega, hmx, hs, ?_⟩
    rw [Nat.mul_one] at ht ⊢
    rw [List.map_take, ← ht, List.take_take, Nat.min_eq_left hm]
theorem dl_take (b n : Nat) {L m : Nat} (h : m ≤ L) : (dl b n L).take m = dl b n m := by
  apply List.ext_getElem
  · rw [List.length_take, dl_length, dl_length]; omega
  · intro i h1 h2
    rw [List.getElem_take, dlget3, dlget3]
/-- Without the noughts at the end. -/
theorem Own.cut {w : World} {B : Nat} {T : TypeId} {k : IntKind} {A : Option Addr} {L c n : Nat} (h : Own w B T k (.slice A L c) (dl 256 n L)) (hn : nd 256 n ≤ L) : Own w B T k (.slice A (nd 256 n) c) (dl 256 n (nd 256 n)) := by
  have := h.take (m := nd 256 n) (by rw [dl_length]; exact hn)
  rwa [dl_take 256 n hn] at this
set_option maxRecDepth 100000 in
set_option maxHeartbeats 400000 in
theorem rCut3_c (n L B : Nat) (A : Option Addr) (c : Nat) (w : World) (hn : nd 256 n ≤ L) (hL : L ≤ 1000000000) (h : Own w B 3 .i64 (.slice A L c) (dl 256 n L)) :
    Calls Tryz.prog 189 #[.slice A L c] w fun e w' => e = .returned (.slice A (nd 256 n) c) ∧ w = w' := by
  rcases h.form with ⟨e, h0⟩ | ⟨g, cap, cs, e, _, hg, hblk, hcap, hcm, hcell⟩
  · injection e with e1 e2 e3
    have hz : nd 256 n = 0 := by omega
    subst e1 e2 e3
    rw [hz]
    clear h h0 hn
    go_enter Tryz.func189, Tryz.ntmps189
    go_wp2
    go_loop [3] (fun i => i = .int .i64 0) (fun i => (intOf i).toNat)
    case atStart => rfl
    case round =>
      obtain rfl := hrel
      go_wp2
      go_ret
      exact ⟨rfl, rfl⟩
  · injection e with e1 e2 e3
    subst e1 e3
    rw [dl_length] at hcap
    have hc : Hid (∀ j, j < L → w.cell? ⟨g, j, none⟩ = some (.int .i64 (dgt 256 n j : Nat))) := Lib.hid fun j hj => by
      rw [hblk.cell, hcell j (by rw [dl_length]; exact hj), dlget3]
    clear h hcell hblk e2
    go_enter Tryz.func189, Tryz.ntmps189
    go_wp2
    go_loop [3] (fun i => ∃ k : Nat, i = .int .i64 k ∧ nd 256 n ≤ k ∧ k ≤ L) (fun i => (intOf i).toNat)
    case atStart => exact ⟨L, rfl, hn, Nat.le_refl _⟩
    case round =>
      obtain ⟨k, rfl, hk, hkL⟩ := hrel
      by_cases hk0 : k = 0
      · subst hk0
        have hz : nd 256 n = 0 := by omega
        have HZ := Lib.hid hz
        clear hk hz
        go_wp2
        go_ret
        exact ⟨by rw [HZ.out]; try rfl, rfl⟩
      · obtain ⟨m, rfl⟩ : ∃ m, k = m + 1 := ⟨k - 1, by omega⟩
        have hcm' := hc.out m (by omega)
        by_cases hd : dgt 256 n m = 0
        · rw [hd] at hcm'
          have hk2 : Hid (nd 256 n ≤ m) := Lib.hid (by
            rcases Nat.lt_or_ge m (nd 256 n) with c | c
            · have e : nd 256 n = m + 1 := by omega
              have := dgt_top (b := 256) (n := n) (by omega) (fun c => by rw [c, nd_zero] at e; omega)
              rw [e, Nat.add_sub_cancel] at this
              exact absurd hd this
            · exact c)
          clear hk hd
          go_wp2
          go_round
          case rel => exact ⟨m, by go_num, hk2.out, by omega⟩
          case measure => simp [intOf]; try omega
        · have hd1 : ((dgt 256 n m : Nat) : Int) ≠ 0 := by omega
          have hd2 : (((dgt 256 n m : Nat) : Int) == 0) = false := by rw [beq_eq_false_iff_ne]; exact hd1
          have HE := Lib.hid (show nd 256 n = m + 1 by
            rcases Nat.lt_or_ge m (nd 256 n) with c | c
            · omega
            · exact absurd (dgt_big (b := 256) (by omega) c) hd)
          generalize dgt 256 n m = d at *
          clear hk
          go_wp2
          go_ret
          exact ⟨by rw [HE.out]; try rfl, rfl⟩
set_option maxRecDepth 100000 in
theorem rAt3_c (n L i B : Nat) (A : Option Addr) (c : Nat) (w : World) (hL : nd 256 n ≤ L) (hL2 : L ≤ 4000000000) (hi : i ≤ 4000000000) (h : Own w B 3 .i64 (.slice A L c) (dl 256 n L)) :
    Calls Tryz.prog 188 #[.slice A L c, .int .i64 (i : Nat)] w fun e w' => e = .returned (.int .i64 (dgt 256 n i : Nat)) ∧ w = w' := by
  by_cases hlt : i < L
  · obtain ⟨g, cap, e, _, hg, hc, hf⟩ := h.cell (j := i) (by rw [dl_length]; exact hlt)
    injection e with e1 e2 e3
    subst e1
    rw [dlget3] at hc
    generalize dgt 256 n i = d at *
    clear h e2 e3 hf
    go_enter Tryz.func188, Tryz.ntmps188
    go_wp2
    go_ret
    exact ⟨rfl, rfl⟩
  · rw [dgt_big (b := 256) (by omega) (show nd 256 n ≤ i by omega)]
    clear h hL
    go_enter Tryz.func188, Tryz.ntmps188
    go_wp2
    go_ret
    exact ⟨rfl, rfl⟩
end Go.Proofs.YtajcapliokblfaaGreatDoor
set_option linter.unusedSimpArgs false
set_option linter.unusedVariables false
namespace Go.Proofs.YtajcapliokblfaaGreatDoor
open Go Go.RowKit Nt

theorem and_one_i64d (q : Nat) (hq : q < 256) : bits BinOp.and IntKind.i64 (q : Int) 1 = ((q % 2 : Nat) : Int) := by
  have h1 : (BitVec.ofInt 64 (q : Int)).toNat = q := by
    rw [BitVec.ofInt_natCast, BitVec.toNat_ofNat]; exact Nat.mod_eq_of_lt (by omega)
  have h2 : (BitVec.ofInt 64 (1 : Int)).toNat = 1 := by decide
  show IntKind.i64.wrap ((BitVec.ofInt 64 (q : Int) &&& BitVec.ofInt 64 (1 : Int)).toNat : Int) = _
  rw [BitVec.toNat_and, h1, h2, Nat.and_one_is_mod]
  exact IntWalk.i64_in _ (by omega)
set_option maxRecDepth 100000 in
set_option maxHeartbeats 400000 in
theorem rLow3_c (n l L B : Nat) (A : Option Addr) (c : Nat) (w : World) (h0 : n ≠ 0) (hl : IsLow n l) (hn : nd 256 n ≤ L) (hL : L ≤ 1000000000) (h : Own w B 3 .i64 (.slice A L c) (dl 256 n L)) :
    Calls Tryz.prog 170 #[.slice A L c] w fun e w' => e = .returned (.int .i64 (l : Nat)) ∧ w = w' := by
  have hlt := low_lt h0 hl
  have hb8 := (bits_le n (nd 256 n)).2 (Nat.le_refl _)
  obtain ⟨g, cap, e, _, hg, hx1, hx2⟩ := h.cell (j := 0) (by rw [dl_length]; omega)
  clear hx1 hx2
  injection e with e1 e2 e3
  subst e1
  have hc : Hid (∀ j, j < L → w.cell? ⟨g, j, none⟩ = some (.int .i64 (dgt 256 n j : Nat))) := Lib.hid fun j hj => by
    obtain ⟨g', cap', e', _, _, hc', _⟩ := h.cell (j := j) (by rw [dl_length]; exact hj)
    injection e' with e1' e2' e3'
    injection e1' with e1'
    injection e1' with e1'
    subst e1'
    rw [hc', dlget3]
  have HL := Lib.hid (hl.2 h0)
  have HB : l < 8 * L := by omega
  clear h e2 e3 hl hlt hb8 hn h0
  go_enter Tryz.func170, Tryz.ntmps170
  go_wp2
  go_loop [3] (fun i => ∃ k : Nat, k ≤ l ∧ i = .int .i64 k) (fun i => l - (intOf i).toNat)
  case atStart => exact ⟨0, Nat.zero_le _, rfl⟩
  case round =>
    obtain ⟨k, hk, rfl⟩ := hrel
    have hbb := byte_bit n (k / 8) (k % 8) (by omega)
    rw [show 8 * (k / 8) + k % 8 = k by omega] at hbb
    have hqL : k / 8 < L := by omega
    have hcq := hc.out (k / 8) hqL
    have hd8 := dgt_lt (b := 256) (by omega) n (k / 8)
    generalize dgt 256 n (k / 8) = d at *
    obtain ⟨v, hv⟩ : ∃ v, v = d / 2 ^ (k % 8) := ⟨_, rfl⟩
    have hv2 : v < 256 := by rw [hv]; exact Nat.lt_of_le_of_lt (Nat.div_le_self _ _) hd8
    have hvI : (d : Int) / 2 ^ (k % 8) = (v : Int) := by rw [hv, int_pow2, Int.natCast_ediv]
    have hand := and_one_i64d v hv2
    rw [hv, hbb] at hand
    rw [← hv] at hand
    obtain ⟨q, hq1⟩ : ∃ q, k / 8 = q := ⟨_, rfl⟩
    obtain ⟨r, hr1⟩ : ∃ r, k % 8 = r := ⟨_, rfl⟩
    rw [hq1] at hqL hcq
    rw [hr1] at hvI
    have hqI : (k : Int) / 8 = (q : Int) := by omega
    have hrI : (k : Int) % 8 = (r : Int) := by omega
    have hr8 : r < 8 := by omega
    clear hv hbb hq1 hr1
    by_cases hkl : k < l
    · rw [HL.out.2 k hkl] at hand
      have hz : bits BinOp.and IntKind.i64 (v : Int) 1 = 0 := hand
      clear hand
      go_wp2
      go_round
      case rel => exact ⟨k + 1, by omega, by go_num⟩
      case measure => simp [intOf]; try omega
    · obtain rfl : k = l := by omega
      rw [HL.out.1] at hand
      have hz : bits BinOp.and IntKind.i64 (v : Int) 1 = 1 := hand
      clear hand
      go_wp2
      go_ret
      exact ⟨rfl, rfl⟩
end Go.Proofs.YtajcapliokblfaaGreatDoor
set_option linter.unusedSimpArgs false
set_option linter.unusedVariables false
namespace Go.Proofs.YtajcapliokblfaaGreatDoor
open Go Go.RowKit Nt

def lowN (n : Nat) : Nat := if h : n = 0 ∨ n % 2 = 1 then 0 else lowN (n / 2) + 1
termination_by n
decreasing_by omega
theorem lowN_odd {n : Nat} (h : n % 2 = 1) : lowN n = 0 := by unfold lowN; rw [dif_pos (Or.inr h)]
theorem lowN_zero : lowN 0 = 0 := by unfold lowN; rw [dif_pos (Or.inl rfl)]
theorem lowN_even {n : Nat} (h0 : n ≠ 0) (h : n % 2 = 0) : lowN n = lowN (n / 2) + 1 := by
  have e : ¬ (n = 0 ∨ n % 2 = 1) := fun c => by rcases c with c | c; exact h0 c; omega
  rw [lowN.eq_1 n, dif_neg e]
theorem lowN_ex (n : Nat) (h0 : n ≠ 0) : ∃ o, o % 2 = 1 ∧ n = o * 2 ^ lowN n := by
  induction n using Nat.strongRecOn with
  | ind n ih =>
    by_cases h : n % 2 = 1
    · exact ⟨n, h, by rw [lowN_odd h, Nat.pow_zero, Nat.mul_one]⟩
    · obtain ⟨o, ho, e⟩ := ih (n / 2) (by omega) (by omega)
      refine ⟨o, ho, ?_⟩
      rw [lowN_even h0 (by omega), Nat.pow_succ, ← Nat.mul_assoc, ← e]; omega
def odN (n : Nat) : Nat := n / 2 ^ lowN n
theorem odN_spec {n : Nat} (h0 : n ≠ 0) : odN n % 2 = 1 ∧ n = odN n * 2 ^ lowN n := by
  obtain ⟨o, ho, e⟩ := lowN_ex n h0
  have e2 : odN n = o := by
    unfold odN
    generalize lowN n = k at *
    rw [e, Nat.mul_div_cancel _ (Nat.two_pow_pos _)]
  rw [e2]; exact ⟨ho, e⟩
theorem odN_pos {n : Nat} (h0 : n ≠ 0) : odN n ≠ 0 := odd_ne (odN_spec h0).1
theorem odd_pow {o l m k : Nat} (ho : o % 2 = 1) (hm : m % 2 = 1) (h : o * 2 ^ l = m * 2 ^ k) : l = k ∧ o = m := by
  induction l generalizing k with
  | zero =>
    cases k with
    | zero => exact ⟨rfl, by simpa using h⟩
    | succ k => rw [Nat.pow_zero, Nat.mul_one, Nat.pow_succ, ← Nat.mul_assoc] at h; omega
  | succ l ih =>
    cases k with
    | zero => rw [Nat.pow_zero, Nat.mul_one, Nat.pow_succ, ← Nat.mul_assoc] at h; omega
    | succ k =>
      rw [Nat.pow_succ, Nat.pow_succ, ← Nat.mul_assoc, ← Nat.mul_assoc] at h
      obtain ⟨e1, e2⟩ := ih (k := k) (by omega)
      exact ⟨by rw [e1], e2⟩
theorem od_unique {n o l : Nat} (ho : o % 2 = 1) (h : n = o * 2 ^ l) : lowN n = l ∧ odN n = o := by
  have h0 : n ≠ 0 := fun c => by
    rw [c] at h
    rcases Nat.mul_eq_zero.1 h.symm with c | c
    · exact odd_ne ho c
    · exact absurd c (Nat.pos_iff_ne_zero.1 (Nat.two_pow_pos l))
  obtain ⟨h1, h2⟩ := odN_spec h0
  exact odd_pow h1 ho (h2.symm.trans h)
theorem od_mul {n : Nat} (h0 : n ≠ 0) (k : Nat) : lowN (n * 2 ^ k) = lowN n + k ∧ odN (n * 2 ^ k) = odN n := by
  obtain ⟨h1, h2⟩ := odN_spec h0
  refine od_unique h1 ?_
  rw [Nat.pow_add, ← Nat.mul_assoc, ← h2]
theorem odN_odd {n : Nat} (h : n % 2 = 1) : odN n = n := (od_unique (l := 0) h (by rw [Nat.pow_zero, Nat.mul_one])).2
theorem odN_zero : odN 0 = 0 := by unfold odN; rw [Nat.zero_div]
theorem lowN_is (n : Nat) : IsLow n (lowN n) := by
  refine ⟨fun c => by rw [c, lowN_zero], fun h0 => ?_⟩
  obtain ⟨h1, h2⟩ := odN_spec h0
  refine ⟨?_, fun j hj => ?_⟩
  · rw [dgt_def]; exact h1
  · rw [dgt_def, h2, show lowN n = j + (lowN n - j) by omega, Nat.pow_add, Nat.mul_left_comm, Nat.mul_div_cancel_left _ (Nat.two_pow_pos j), show lowN n - j = (lowN n - j - 1) + 1 by omega, Nat.pow_succ, ← Nat.mul_assoc]
    omega
theorem odN_le (n : Nat) : odN n ≤ n := Nat.div_le_self _ _
theorem nd_odN {n : Nat} (h0 : n ≠ 0) : nd 2 n = nd 2 (odN n) + lowN n := by
  have h := nd_mul_pow (j := lowN n) (odN_pos h0)
  rwa [← (odN_spec h0).2] at h
/-- A Dyad. -/
structure Dy where
  g : Bool
  n : Nat
  x : Int
def Dy.v (d : Dy) : Value := .agg #[.bool d.g, .string (natS d.n), .int .i64 d.x]
def Dy.zero : Dy := ⟨false, 0, 0⟩
def Dy.Num (d : Dy) : Prop := fits d.n ∧ d.n % 2 = 1 ∧ -1048576 ≤ d.x ∧ d.x ≤ 1048576
def Dy.Ok (d : Dy) : Prop := d = Dy.zero ∨ d.Num
theorem Dy.zero_v : Dy.zero.v = .agg #[.bool false, .string ⟨#[]⟩, .int .i64 0] := by unfold Dy.v Dy.zero; rw [natS_zero]
theorem fits_zero : fits 0 := by unfold fits; rw [nd_zero]; omega
theorem DOk_dy {g : Bool} {s : ByteArray} {x : Int} (h : DOk g s x) : ∃ d : Dy, d.Ok ∧ g = d.g ∧ s = natS d.n ∧ x = d.x := by
  rcases h with ⟨rfl, rfl, rfl⟩ | ⟨n, hf, ho, rfl, h1, h2⟩
  · exact ⟨Dy.zero, Or.inl rfl, rfl, natS_zero.symm, rfl⟩
  · exact ⟨⟨g, n, x⟩, Or.inr ⟨hf, ho, h1, h2⟩, rfl, rfl, rfl⟩
/-- Whether a number times a power of two may be a Dyad. -/
def mkOk3 (n : Nat) (x : Int) : Prop := n = 0 ∨ (fits (odN n) ∧ -1048576 ≤ x + lowN n ∧ x + lowN n ≤ 1048576)
instance (n : Nat) (x : Int) : Decidable (mkOk3 n x) := by unfold mkOk3 fits; exact inferInstance
@[irreducible] def mkD (g : Bool) (n : Nat) (x : Int) : Dy := if n ≠ 0 ∧ mkOk3 n x then ⟨g, odN n, x + lowN n⟩ else Dy.zero
@[irreducible] def mkE (n : Nat) (x : Int) : Int := if mkOk3 n x then 0 else 4
theorem mkD_zero (g : Bool) (x : Int) : mkD g 0 x = Dy.zero := by unfold mkD; rw [if_neg (fun c => c.1 rfl)]
theorem mkE_zero (x : Int) : mkE 0 x = 0 := by unfold mkE; exact if_pos (Or.inl rfl)
theorem mkD_ok {g : Bool} {n : Nat} {x : Int} (h0 : n ≠ 0) (h : mkOk3 n x) : mkD g n x = ⟨g, odN n, x + lowN n⟩ := by unfold mkD; rw [if_pos ⟨h0, h⟩]
theorem mkE_ok {n : Nat} {x : Int} (h : mkOk3 n x) : mkE n x = 0 := by unfold mkE; rw [if_pos h]
theorem mkD_no {g : Bool} {n : Nat} {x : Int} (h : ¬ mkOk3 n x) : mkD g n x = Dy.zero := by unfold mkD; rw [if_neg (fun c => h c.2)]
theorem mkE_no {n : Nat} {x : Int} (h : ¬ mkOk3 n x) : mkE n x = 4 := by unfold mkE; rw [if_neg h]
theorem mkD_Ok (g : Bool) (n : Nat) (x : Int) : (mkD g n x).Ok := by
  by_cases h0 : n = 0
  · subst h0; rw [mkD_zero]; exact Or.inl rfl
  · by_cases h : mkOk3 n x
    · rw [mkD_ok h0 h]
      rcases h with h | ⟨h1, h2, h3⟩
      · exact absurd h h0
      · exact Or.inr ⟨h1, (odN_spec h0).1, h2, h3⟩
    · rw [mkD_no h]; exact Or.inl rfl
theorem mkOk3_shift {n : Nat} (k : Nat) {x : Int} : mkOk3 (n * 2 ^ k) (x - k) ↔ mkOk3 n x := by
  by_cases h0 : n = 0
  · subst h0; rw [Nat.zero_mul]; exact ⟨fun _ => Or.inl rfl, fun _ => Or.inl rfl⟩
  · have h1 : n * 2 ^ k ≠ 0 := fun c => by
      rcases Nat.mul_eq_zero.1 c with c | c
      · exact h0 c
      · exact absurd c (Nat.pos_iff_ne_zero.1 (Nat.two_pow_pos k))
    obtain ⟨e1, e2⟩ := od_mul h0 k
    unfold mkOk3
    rw [e1, e2]
    have e : x - (k : Int) + ((lowN n + k : Nat) : Int) = x + lowN n := by omega
    rw [e]
    exact ⟨fun h => h.elim (fun c => absurd c h1) Or.inr, fun h => h.elim (fun c => absurd c h0) Or.inr⟩
theorem mkD_shift (g : Bool) (n k : Nat) (x : Int) : mkD g (n * 2 ^ k) (x - k) = mkD g n x ∧ mkE (n * 2 ^ k) (x - k) = mkE n x := by
  by_cases h0 : n = 0
  · subst h0; rw [Nat.zero_mul, mkD_zero, mkD_zero, mkE_zero, mkE_zero]; exact ⟨rfl, rfl⟩
  · have h1 : n * 2 ^ k ≠ 0 := fun c => by
      rcases Nat.mul_eq_zero.1 c with c | c
      · exact h0 c
      · exact absurd c (Nat.pos_iff_ne_zero.1 (Nat.two_pow_pos k))
    obtain ⟨e1, e2⟩ := od_mul h0 k
    by_cases h : mkOk3 n x
    · rw [mkD_ok h1 ((mkOk3_shift k).2 h), mkD_ok h0 h, mkE_ok ((mkOk3_shift k).2 h), mkE_ok h, e1, e2]
      refine ⟨?_, rfl⟩
      congr 1; omega
    · have h' : ¬ mkOk3 (n * 2 ^ k) (x - k) := fun c => h ((mkOk3_shift k).1 c)
      rw [mkD_no h', mkD_no h, mkE_no h', mkE_no h]; exact ⟨rfl, rfl⟩
/-- A Dyad that may be is made of itself. -/
theorem mkD_self {d : Dy} (h : d.Num) : mkD d.g d.n d.x = d ∧ mkE d.n d.x = 0 := by
  obtain ⟨h1, h2, h3, h4⟩ := h
  have e1 := lowN_odd h2
  have e2 := odN_odd h2
  have hk : mkOk3 d.n d.x := Or.inr ⟨by rw [e2]; exact h1, by rw [e1]; omega, by rw [e1]; omega⟩
  rw [mkD_ok (odd_ne h2) hk, mkE_ok hk, e1, e2]
  refine ⟨?_, rfl⟩
  obtain ⟨g, n, x⟩ := d
  simp
end Go.Proofs.YtajcapliokblfaaGreatDoor
set_option linter.unusedSimpArgs false
set_option linter.unusedVariables false
namespace Go.Proofs.YtajcapliokblfaaGreatDoor
open Go Go.RowKit Nt

/-- A number of any length that a call made: its digits, no 0 at the end. -/
def BigP (z : Nat) (w : World) (e : Ending) (w' : World) : Prop := ∃ A c, e = .returned (.slice A (nd 256 z) c) ∧ Own w' w.heap.size 3 .i64 (.slice A (nd 256 z) c) (dl 256 z (nd 256 z)) ∧ Below w.heap.size w w'
theorem zmade (q : Nat) : madeCells #[.int .i64 0] q = fcells .i64 (dgt 256 0) q := by
  rw [fcells_made]
  exact fcells_congr fun j _ => by rw [dgt_def, Nat.zero_div]
theorem fcells_list3 (k : IntKind) (f : Nat → Nat) (L : Nat) : (fcells k f L).toList = (((List.range L).map f).map (fun (x : Nat) => Value.int k (x : Int))) := by
  unfold fcells; rw [List.map_map]; rfl
theorem Own.of_zero {w : World} {B g : Nat} {T : TypeId} {L : Nat} (h : Blk w g T (fcells .i64 (dgt 256 0) L)) (hB : B ≤ g) (hL : L ≤ 1000000000) :
    Own w B T .i64 (.slice (some ⟨g, 0, none⟩) L L) (dl 256 0 L) := by
  unfold Own
  rw [dl_length]
  refine ⟨by simp [dl_length], Or.inr ⟨g, L, fcells .i64 (dgt 256 0) L, rfl, hB, h, Nat.le_refl _, by unfold maxLen; omega, by rw [fcells_size, Nat.mul_one], ?_⟩⟩
  rw [fcells_list3, Nat.mul_one]
  exact List.take_of_length_le (by simp)
theorem low_zero (q z : Nat) : dl 256 (256 ^ q * z) q = dl 256 0 q := dl_congr fun i hi => by
  rw [← dgt_mod (256 ^ q * z) hi, Nat.mul_mod_right]
theorem low_skip (q z i : Nat) : dgt 256 (256 ^ q * z) (q + i) = dgt 256 z i := by
  have := dgt_skip (b := 256) (256 ^ q * z) q i
  rw [Nat.mul_div_cancel_left _ (Nat.pow_pos (by omega))] at this
  rw [this, Nat.add_comm]
theorem pow_split (b : Nat) : 2 ^ b = 256 ^ (b / 8) * 2 ^ (b % 8) := by
  rw [show (256 : Nat) = 2 ^ 8 from rfl, ← Nat.pow_mul, ← Nat.pow_add]
  congr 1; omega
theorem wr_sum (m D : Nat) (h1 : m < 256) (h2 : D ≤ 32640) : wrap64 ((m : Int) + wrap64 (D : Int)) = ((m + D : Nat) : Int) := by
  rw [IntWalk.wrap64_in (D : Int) (by omega), ← Int.natCast_add, IntWalk.wrap64_in _ (by omega)]
theorem wr_pow {d s r : Nat} (hs : 2 ^ r = s) : (d : Int) * 2 ^ r = ((d * s : Nat) : Int) := by rw [int_pow2, hs, Int.natCast_mul]
theorem wr_all {d s r m D : Nat} (hs : 2 ^ r = s) (hD : D = d * s) (h1 : m < 256) (h2 : D ≤ 32640) : Hid (wrap64 ((m : Int) + wrap64 ((d : Int) * 2 ^ r)) = ((m + D : Nat) : Int)) := Lib.hid (by rw [wr_pow hs, ← hD]; exact wr_sum m D h1 h2)
theorem shf_nat {n s k d m x y : Nat} (hs128 : s ≤ 128) (hd : d = dgt 256 n k) (hm : m = mca 256 n s 0 k) (hx : x = dgt 256 (n * s) k) (hy : y = mca 256 n s 0 (k + 1)) :
    ∃ D, D = d * s ∧ D ≤ 32640 ∧ (m + D) % 256 = x ∧ (m + D) / 256 = y ∧ d < 256 ∧ m < 256 ∧ x < 256 ∧ y < 256 := by
  have h1 := dgt_lt (b := 256) (by omega) n k
  have h2 := mca_lt (b := 256) (by omega) n s 0 k (by omega) (by omega)
  have h3 := dgt_mca (b := 256) (by omega) n s 0 k
  have h4 := mca_succ (b := 256) (by omega) n s 0 k
  have h5 := dgt_lt (b := 256) (by omega) (n * s) k
  have h6 := mca_lt (b := 256) (by omega) n s 0 (k + 1) (by omega) (by omega)
  rw [Nat.add_zero, ← hd, ← hm, ← hx, Nat.add_comm] at h3
  rw [← hd, ← hm, ← hy, Nat.add_comm] at h4
  rw [← hd] at h1
  rw [← hm] at h2
  rw [← hx] at h5
  rw [← hy] at h6
  have hb : d * s ≤ 255 * 128 := Nat.mul_le_mul (by omega) hs128
  exact ⟨d * s, rfl, hb, h3.symm, h4.symm, h1, h2, h5, h6⟩
theorem mod_int {S x : Nat} (h : S % 256 = x) : (S : Int).tmod 256 = (x : Int) := by rw [Int.tmod_eq_emod_of_nonneg (by omega)]; omega
theorem div_int {S y : Nat} (h : S / 256 = y) : (S : Int).tdiv 256 = (y : Int) := by rw [Int.tdiv_eq_ediv_of_nonneg (by omega)]; omega
theorem shf_num {n s r k d m x y : Nat} (hs : 2 ^ r = s) (hs128 : s ≤ 128) (hd : d = dgt 256 n k) (hm : m = mca 256 n s 0 k) (hx : x = dgt 256 (n * s) k) (hy : y = mca 256 n s 0 (k + 1)) :
    ∃ S : Nat, Hid (wrap64 ((m : Int) + wrap64 ((d : Int) * 2 ^ r)) = (S : Int)) ∧ (S : Int).tmod 256 = (x : Int) ∧ (S : Int).tdiv 256 = (y : Int) ∧ S ≤ 40000 ∧ d < 256 ∧ m < 256 ∧ x < 256 ∧ y < 256 := by
  obtain ⟨D, hD, hDb, h1, h2, h3, h4, h5, h6⟩ := shf_nat hs128 hd hm hx hy
  have hS : m + D ≤ 40000 := by clear hs hD h1 h2; omega
  have H := wr_all hs hD h4 hDb
  clear hs hD
  obtain ⟨S, hSe⟩ : ∃ S, S = m + D := ⟨_, rfl⟩
  rw [← hSe] at hS H h1 h2
  exact ⟨S, H, mod_int h1, div_int h2, hS, h3, h4, h5, h6⟩
theorem shf_last {n s L m : Nat} (hs128 : s ≤ 128) (hL : nd 256 n = L) (hm : m = mca 256 n s 0 L) (q : Nat) :
    m = dgt 256 (256 ^ q * (n * s)) (q + L) ∧ nd 256 (256 ^ q * (n * s)) ≤ q + L + 1 ∧ m < 256 := by
  have hn : n < 256 ^ L := by rw [← hL]; exact lt_nd (by omega)
  have h := mca_last (b := 256) (by omega) n s 0 L hn (by omega) (by omega)
  rw [Nat.add_zero] at h
  refine ⟨by rw [low_skip, hm, h], nd_le (by omega) ?_, by rw [hm, h]; exact dgt_lt (by omega) _ _⟩
  rw [Nat.add_assoc, Nat.pow_add]
  refine Nat.mul_lt_mul_of_pos_left ?_ (Nat.pow_pos (by omega))
  rw [Nat.pow_succ]
  exact Nat.mul_lt_mul'' hn (by omega)
end Go.Proofs.YtajcapliokblfaaGreatDoor
set_option linter.unusedSimpArgs false
set_option linter.unusedVariables false
namespace Go.Proofs.YtajcapliokblfaaGreatDoor
open Go Go.RowKit Nt

theorem plus_num3 {x y k q d e : Nat} (hq : q = car 256 x y k) (hd : d = dgt 256 (x + y) k) (he : e = car 256 x y (k + 1)) :
    q ≤ 1 ∧ (q + dgt 256 x k + dgt 256 y k) % 256 = d ∧ (q + dgt 256 x k + dgt 256 y k) / 256 = e ∧ dgt 256 x k < 256 ∧ dgt 256 y k < 256 ∧ d < 256 ∧ e ≤ 1 := by
  have h1 := car_le (b := 256) (by omega) x y k
  have h2 := dgt_add (b := 256) (by omega) x y k
  have h3 := car_succ (b := 256) (by omega) x y k
  have h4 := dgt_lt (b := 256) (by omega) x k
  have h5 := dgt_lt (b := 256) (by omega) y k
  have h6 := car_le (b := 256) (by omega) x y (k + 1)
  rw [← hq] at h1 h2 h3
  rw [← hd] at h2
  rw [← he] at h3 h6
  exact ⟨h1, by omega, by omega, h4, h5, by omega, h6⟩
theorem sum3_i3 {q a b d e : Nat} (h1 : (q + a + b) % 256 = d) (h2 : (q + a + b) / 256 = e) : ((q : Int) + (a : Int) + (b : Int)) % 256 = (d : Int) ∧ ((q : Int) + (a : Int) + (b : Int)).tdiv 256 = (e : Int) :=
  ⟨by omega, by rw [Int.tdiv_eq_ediv_of_nonneg (by omega)]; omega⟩
theorem plus_last {x y M q : Nat} (hx : nd 256 x ≤ M) (hy : nd 256 y ≤ M) (hq : q = car 256 x y M) : q = dgt 256 (x + y) M ∧ nd 256 (x + y) ≤ M + 1 ∧ q ≤ 1 := by
  have h1 := (lt_pow_iff (b := 256) (by omega) M x).2 hx
  have h2 := (lt_pow_iff (b := 256) (by omega) M y).2 hy
  refine ⟨hq.trans (car_last (by omega) x y M h1 h2), nd_le (by omega) ?_, by rw [hq]; exact car_le (by omega) _ _ _⟩
  rw [Nat.pow_succ]; omega
theorem sub_step3 (x y k : Nat) (h : y ≤ x) :
    (dgt 256 x k < dgt 256 y k + bor 256 x y k → dgt 256 (x - y) k + dgt 256 y k + bor 256 x y k = dgt 256 x k + 256 ∧ bor 256 x y (k + 1) = 1) ∧
    (¬ dgt 256 x k < dgt 256 y k + bor 256 x y k → dgt 256 (x - y) k + dgt 256 y k + bor 256 x y k = dgt 256 x k ∧ bor 256 x y (k + 1) = 0) := by
  have h1 := dgt_sub (b := 256) (by omega) x y k h
  have h2 := bor_succ (b := 256) (by omega) x y k
  have h3 := bor_le 256 x y k
  have h4 := dgt_lt (b := 256) (by omega) x k
  have h5 := dgt_lt (b := 256) (by omega) y k
  refine ⟨fun c => ?_, fun c => ?_⟩
  · rw [if_pos c] at h2
    exact ⟨by omega, h2⟩
  · rw [if_neg c] at h2
    exact ⟨by omega, h2⟩
theorem nd_sub (x y : Nat) : nd 256 (x - y) ≤ nd 256 x := nd_mono (by omega) (Nat.sub_le _ _)
end Go.Proofs.YtajcapliokblfaaGreatDoor
set_option linter.unusedSimpArgs false
set_option linter.unusedVariables false
namespace Go.Proofs.YtajcapliokblfaaGreatDoor
open Go Go.RowKit Nt

/-- The digits of a number stand at A. -/
def DRow (w : World) (A : Option Addr) (n L : Nat) : Prop := ∀ j, j < L → ∃ g, A = some ⟨g, 0, none⟩ ∧ g < w.heap.size ∧ w.cell? ⟨g, j, none⟩ = some (.int .i64 (dgt 256 n j : Nat))
theorem Own.drow {w : World} {B : Nat} {T : TypeId} {A : Option Addr} {L c n : Nat} (h : Own w B T .i64 (.slice A L c) (dl 256 n L)) : DRow w A n L := fun j hj => by
  obtain ⟨g, cap, e, _, hg, hc, _⟩ := h.cell (j := j) (by rw [dl_length]; exact hj)
  injection e with e1 e2 e3
  rw [dlget3] at hc
  exact ⟨g, e1, hg, hc⟩
theorem halv_dgt (n q r j : Nat) (hr : r < 8) : dgt 256 (n / 2 ^ (8 * q + r)) j = (dgt 256 n (q + j) + 256 * dgt 256 n (q + j + 1)) / 2 ^ r % 256 := by
  have e : n / 2 ^ (8 * q + r) = n / 256 ^ q / 2 ^ r := by
    rw [Nat.pow_add, Nat.pow_mul, Nat.div_div_eq_div_mul]
  rw [e]
  have h := dgt_shr (e := 8) (n / 256 ^ q) r j (by omega)
  rw [show (2 : Nat) ^ 8 = 256 from rfl, dgt_skip, dgt_skip, Nat.add_comm j q, Nat.add_right_comm j 1 q, Nat.add_comm j q] at h
  rw [h]
  have h1 := dgt_lt (b := 256) (by omega) n (q + j)
  have h2 := dgt_lt (b := 256) (by omega) n (q + j + 1)
  generalize dgt 256 n (q + j) = a at *
  generalize dgt 256 n (q + j + 1) = b at *
  clear h e
  have : r = 0 ∨ r = 1 ∨ r = 2 ∨ r = 3 ∨ r = 4 ∨ r = 5 ∨ r = 6 ∨ r = 7 := by omega
  rcases this with rfl | rfl | rfl | rfl | rfl | rfl | rfl | rfl <;> simp <;> omega
theorem hv_int {a b r x : Nat} (h1 : a < 256) (h2 : b < 256) (hx : (a + 256 * b) / 2 ^ r % 256 = x) :
    ∃ S T : Nat, Hid (S = a + 256 * b) ∧ IntKind.i64.wrap ((256 : Int) * (b : Int)) = 256 * (b : Int) ∧ IntKind.i64.wrap ((a : Int) + 256 * (b : Int)) = (S : Int) ∧ Hid ((S : Int) / 2 ^ r = (T : Int)) ∧ (T : Int).tmod 256 = (x : Int) ∧ S ≤ 65535 ∧ T ≤ 65535 ∧ x < 256 := by
  refine ⟨a + 256 * b, (a + 256 * b) / 2 ^ r, Lib.hid rfl, IntWalk.i64_in _ (by clear hx; omega), ?_, Lib.hid (by rw [int_pow2, Int.natCast_ediv]), ?_, by clear hx; omega, Nat.le_trans (Nat.div_le_self _ _) (by clear hx; omega), by rw [← hx]; exact Nat.mod_lt _ (by omega)⟩
  · rw [IntWalk.i64_in _ (by clear hx; omega)]; rw [Int.natCast_add, Int.natCast_mul]; rfl
  · exact mod_int hx
theorem halv_nd {n q r L k : Nat} (h : nd 256 n ≤ L) (hk : L ≤ q + k) : nd 256 (n / 2 ^ (8 * q + r)) ≤ k := by
  refine nd_le (by omega) ?_
  have h1 := (lt_pow_iff (b := 256) (by omega) L n).2 h
  rw [Nat.div_lt_iff_lt_mul (Nat.two_pow_pos _)]
  have h2 : 256 ^ L ≤ 256 ^ k * 2 ^ (8 * q + r) := by
    rw [Nat.pow_add, Nat.pow_mul, show (2 : Nat) ^ 8 = 256 from rfl, ← Nat.mul_assoc, ← Nat.pow_add]
    exact Nat.le_trans (Nat.pow_le_pow_right (by omega) (by omega)) (Nat.le_mul_of_pos_right _ (Nat.two_pow_pos _))
  omega
end Go.Proofs.YtajcapliokblfaaGreatDoor
set_option linter.unusedSimpArgs false
set_option linter.unusedVariables false
namespace Go.Proofs.YtajcapliokblfaaGreatDoor
open Go Go.RowKit Nt

theorem step_app1 {P : Program} (W : World) {ops : Array Oper} {o : Oper} {a : Act} {K : Act → World → Prop} {Q : Exit → Act → World → Prop} {E : Prop} (hgd : o.guard = none) (s x : Operand) (t : TypeId)
    (ho : o.op = .call { callee := .builtin .append, args := #[s, x], argTypes := #[t, t] })
    (B : Nat) (e : TypeId) (i : TypeInfo) (k : IntKind) (bytes : Nat) (ht : P.underlying t = some (.slice e)) (hi : P.info? e = some i) (hz : i.zero = some (.int k 0))
    (hsize : i.size = 1) (hby : i.bytes = bytes) (hb8 : bytes ≤ 8)
    (v : Value) (l : List Nat) (y : Nat) (ad : Addr) (hs : a.eval s = v) (hx : a.eval x = .slice (some ad) 1 1) (hcx : W.cell? ad = some (.int k (y : Nat))) (hown : Own W B e k v l)
    (hn : l.length + 1 ≤ 17592186044416) (hB : B ≤ W.heap.size)
    (h : ∀ v' w', Own w' B e k v' (l ++ [y]) → Below B W w' → K (a.put o.dst v') w') :
    if Region.wanted o (yielded ops a.tmps) = true then Oper.wp P o a W K Q else E := by
  have hw : Region.wanted o (yielded ops a.tmps) = true := by simp [Region.wanted, hgd]
  rw [if_pos hw]
  have hbytes : (l.length + 1) * bytes ≤ 140737488355328 := by
    have h1 : (l.length + 1) * bytes ≤ (l.length + 1) * 8 := Nat.mul_le_mul_left _ hb8
    omega
  obtain ⟨v', w', hrun, h2, hg, _, h5⟩ := run_append_own_at (P := P) W B t o.type e i (.int k 0) 1 bytes ht hi hz hsize hby rfl (by omega) v l.length (l.map (fun (x : Nat) => Value.int k (x : Int))) hown
    ad 1 1 [.int k (y : Nat)] rfl (by
      intro j u hu
      have hj : j = 0 := by
        rcases Nat.lt_or_ge j 1 with h | h
        · omega
        · rw [List.getElem?_eq_none (by simpa using h)] at hu; cases hu
      subst hj
      have e0 : ad.add 0 = ad := by unfold Addr.add; simp
      rw [e0, hcx]
      exact hu) (by
      intro u hu
      rw [List.mem_singleton.1 hu]; rfl) (by simp [maxLen]; omega) hbytes hB
  unfold Oper.wp execOp
  simp only [ho, resolve, invoke, builtin, Sem.run_bind, Sem.run_pure, Result.andThen_ok, List.map_toArray, List.map_cons, List.map_nil, hs, hx, hrun]
  refine h v' w' ?_ ?_
  · unfold Own
    simpa using h2
  · exact Below.grown (Below.refl _ _) hg hB (fun g e => (hown.lt g e).1)
set_option maxRecDepth 100000 in
set_option maxHeartbeats 1000000 in
theorem rHalved3_c (n q r B : Nat) (A : Option Addr) (c : Nat) (w : World) (hr : r < 8) (hq : q ≤ 1000000) (hn : nd 256 n ≤ 1000000) (h : Own w B 3 .i64 (.slice A (nd 256 n) c) (dl 256 n (nd 256 n))) :
    Calls Tryz.prog 171 #[.slice A (nd 256 n) c, .int .i64 ((8 * q + r : Nat) : Int)] w (BigP (n / 2 ^ (8 * q + r)) w) := by
  obtain ⟨i0, hi0, hz0, hj1, hj2⟩ := info_parts (P := Tryz.prog) (e := 3) (z := .int .i64 0) (size := 1) (bytes := 8) (by kernel_rfl)
  have hdd := halv_dgt n q r
  have hnn := @halv_nd n q r
  obtain ⟨b, hbe⟩ : ∃ b, b = 8 * q + r := ⟨_, rfl⟩
  obtain ⟨z, hz⟩ : ∃ z, z = n / 2 ^ b := ⟨_, rfl⟩
  rw [← hbe] at hdd hnn ⊢
  rw [← hz] at hdd ⊢
  have hbq : (b : Int).tdiv 8 = (q : Int) := by rw [Int.tdiv_eq_ediv_of_nonneg (by omega)]; omega
  have hbr : IntKind.i64.wrap ((b : Int).tmod 8) = (r : Int) := by
    rw [Int.tmod_eq_emod_of_nonneg (by omega), IntWalk.i64_in _ (by omega)]; omega
  have hbr2 : (b : Int).tmod 8 = (r : Int) := by rw [Int.tmod_eq_emod_of_nonneg (by omega)]; omega
  have hnz : ∀ {L k : Nat}, nd 256 n ≤ L → L ≤ q + k → nd 256 z ≤ k := fun h1 h2 => by rw [hz]; exact hnn h1 h2
  obtain ⟨L, hL⟩ : ∃ L, L = nd 256 n := ⟨_, rfl⟩
  rw [← hL] at h hn ⊢
  have HL := Lib.hid hL
  have HO := Lib.hid h
  have HDD := Lib.hid (fun j => hdd j hr)
  have HNZ := Lib.hid (fun k => @hnz L k (by rw [hL]; exact Nat.le_refl _))
  clear hL h hdd hnn hnz hz hbe
  go_enter Tryz.func171, Tryz.ntmps171
  go_wp2_with fail
  go_loopw [5, 6] (fun v i wr => ∃ (k p : Nat), (p = q + k) ∧ (k = 0 ∨ p ≤ L) ∧ i = .int .i64 p ∧ Hid (Own wr w.heap.size 3 .i64 v (dl 256 z k)) ∧ Below w.heap.size w wr) (fun _ i _ => L - (intOf i).toNat)
  case atStart => exact ⟨0, q, by omega, Or.inl rfl, rfl, Lib.hid (Own.nil _ _ _ _), Below.refl _ _⟩
  case round =>
    obtain ⟨k, p, hp, hpk, rfl, hown, hb⟩ := hrel
    rename_i u5 _
    by_cases hlt : p < L
    · have HDk := HDD.out k
      rw [← hp] at HDk
      obtain ⟨g, hA, hg, hcell⟩ := HO.out.drow p hlt
      have hcw := (hb.cell (p := ⟨g, p, none⟩) hg).trans hcell
      subst hA
      have hpI : (p : Int) + 1 = ((p + 1 : Nat) : Int) := by omega
      have ha := dgt_lt (b := 256) (by omega) n p
      have hb' := dgt_lt (b := 256) (by omega) n (p + 1)
      have K2 := fun wx (hx : Below w.heap.size w wx) => rAt3_c n L (p + 1) _ _ c wx (by have := HL.out; omega) (by omega) (by omega) (HO.out.below hx (fun g e => (HO.out.lt g e).2))
      obtain ⟨x, hx⟩ : ∃ x, x = dgt 256 z k := ⟨_, rfl⟩
      rw [← hx] at HDk
      have HX := Lib.hid hx
      obtain ⟨p1, hp1⟩ : ∃ p1, p1 = p + 1 := ⟨_, rfl⟩
      rw [← hp1] at hpI hb' K2 HDk
      generalize dgt 256 n p = a at *
      generalize dgt 256 n p1 = b2 at *
      obtain ⟨S, T, HS, hw1, hw2, HT, htm, hS1, hT1, hx8⟩ := hv_int ha hb' HDk.symm
      have H2 := Lib.hid K2
      have hlen : Hid ((dl 256 z k).length + 1 ≤ 17592186044416) := Lib.hid (by rw [dl_length]; omega)
      have hwp : IntKind.i64.wrap (p1 : Int) = (p1 : Int) := IntWalk.i64_in _ (by omega)
      have HP := Lib.hid hp
      have HP1 := Lib.hid hp1
      have HLT := Lib.hid hlt
      have HNEW : Hid (((wr.alloc (.cells #[.int .i64 (x : Nat)] 3)).drew).cell? ⟨wr.heap.size, 0, none⟩ = some (.int .i64 (x : Nat))) := Lib.hid (show (wr.alloc (.cells #[.int .i64 (x : Nat)] 3)).cell? ⟨wr.heap.size, 0, none⟩ = _ from (World.cell?_alloc_at _ _ _ _ rfl).trans rfl)
      have HOWN : Hid (Own ((wr.alloc (.cells #[.int .i64 (x : Nat)] 3)).drew) w.heap.size 3 .i64 u5 (dl 256 z k)) := Lib.hid (World.ownsRow.alloc hown.out _)
      have HSZ : Hid (w.heap.size ≤ ((wr.alloc (.cells #[.int .i64 (x : Nat)] 3)).drew).heap.size) := Lib.hid (Nat.le_trans hb.size (by show wr.heap.size ≤ (wr.alloc _).heap.size; simp))
      have HBW : Hid (Below w.heap.size w ((wr.alloc (.cells #[.int .i64 (x : Nat)] 3)).drew)) := Lib.hid ((hb.alloc hb.size _).drew)
      clear HDk hx hp hp1 K2 hcell hpk hlt hn hq
      go_wp2_with fail
      go_region_law (first
        | (rw [HT.out, htm]; go_loud (refine step_app1 ((wr.alloc (.cells #[.int .i64 (x : Nat)] 3)).drew) rfl (.tmp 15) (.tmp 30) _ rfl w.heap.size 3 i0 .i64 8 Tryz.underlying146 hi0 hz0 hj1 hj2 (by omega) _ (dl 256 z k) x ⟨wr.heap.size, 0, none⟩ (by simp [Act.eval, Act.put]) (by simp [Act.eval, Act.put]) HNEW.out HOWN.out hlen.out HSZ.out ?_); intro v5 w5 hown5 hb5)
        | (go_simp; go_at_call 188; refine (H2.out _ (by first | exact hb | exact hb.drew)).mono ?_; rintro e w' ⟨rfl, rfl⟩))
      all_goals
        rw [HX.out, ← dl_succ] at hown5
        have HO5 := Lib.hid hown5
        have hbf := HBW.out.trans hb5
        clear hown5 hb5 HNEW HOWN HSZ HBW
        go_wp2_with fail
        go_roundw
        case rel => exact ⟨k + 1, p1, by have := HP.out; have := HP1.out; omega, Or.inr (by have := HLT.out; have := HP1.out; omega), by go_num, HO5, hbf⟩
        case measure =>
          have := HLT.out
          have := HP1.out
          clear hw1 hw2 htm hbq hbr hbr2 hpI
          simp [intOf]; omega
    · have HND : Hid (nd 256 z ≤ k) := Lib.hid (HNZ.out k (by omega))
      have hk9 : k ≤ 1000000000 := by omega
      obtain ⟨A5, c5, rfl, hc5⟩ := hown.out.len
      have hown5 := hown.out
      rw [dl_length] at hown5 ⊢
      have KC := Lib.hid (rCut3_c z k _ A5 c5 wr HND.out hk9 hown5)
      have HO5 := Lib.hid hown5
      clear hown5 hc5 hown hpk hp
      go_wp2_with fail
      refine KC.out.mono ?_
      rintro e w6 ⟨rfl, rfl⟩
      go_wp2_with fail
      go_ret
      exact ⟨_, _, rfl, HO5.out.cut HND.out, hb⟩
end Go.Proofs.YtajcapliokblfaaGreatDoor
set_option linter.unusedSimpArgs false
set_option linter.unusedVariables false
namespace Go.Proofs.YtajcapliokblfaaGreatDoor
open Go Go.RowKit Nt

/-- The digits of a number, as cells. -/
def dcell3 (n L : Nat) : Array Value := fcells .i64 (dgt 256 n) L
theorem dcell3_get (n L j : Nat) (h : j < L) : (dcell3 n L)[j]? = some (.int .i64 (dgt 256 n j : Nat)) := fcells_get _ _ _ _ h
theorem dcell3_set (n L i v : Nat) (hv : v < 256) : (dcell3 n L).setIfInBounds i (.int .i64 (v : Nat)) = dcell3 (put 256 n i v) L := by
  unfold dcell3
  rw [fcells_set]
  exact fcells_congr fun j _ => (dgt_put (by omega) n i v j hv).symm
theorem dcell3_made (L : Nat) : madeCells #[.int .i64 0] L = dcell3 0 L := by
  unfold dcell3
  rw [fcells_made]
  exact fcells_congr fun j _ => by rw [dgt_def, Nat.zero_div]
theorem Own.of_fcells3 {w : World} {B g : Nat} {T : TypeId} {k : IntKind} {f : Nat → Nat} {L : Nat} (h : Blk w g T (fcells k f L)) (hB : B ≤ g) (hL : L ≤ 1000000000) :
    Own w B T k (.slice (some ⟨g, 0, none⟩) L L) ((List.range L).map f) := by
  have hlen : ((List.range L).map f).length = L := by simp
  unfold Own
  rw [hlen]
  refine ⟨by simp, Or.inr ⟨g, L, fcells k f L, rfl, hB, h, Nat.le_refl _, by unfold maxLen; omega, by rw [fcells_size, Nat.mul_one], ?_⟩⟩
  rw [fcells_list3, Nat.mul_one]
  exact List.take_of_length_le (by simp)
theorem nd_mul3 (x y : Nat) : nd 256 (x * y) ≤ nd 256 x + nd 256 y := by
  refine nd_le (by omega) ?_
  have h := Nat.mul_lt_mul'' (lt_nd (b := 256) (n := x) (by omega)) (lt_nd (b := 256) (n := y) (by omega))
  rwa [← Nat.pow_add] at h
end Go.Proofs.YtajcapliokblfaaGreatDoor
set_option linter.unusedSimpArgs false
set_option linter.unusedVariables false
namespace Go.Proofs.YtajcapliokblfaaGreatDoor
open Go Go.RowKit Nt

def madeF3 (n Z i j : Nat) : Nat := if n - i ≤ j then dgt 256 Z (n - 1 - j) else 0
theorem madeF3_step {n Z i x j : Nat} (h : n = i + 1 + x) (hj : j < n) : (if j = x then dgt 256 Z i else madeF3 n Z i j) = madeF3 n Z (i + 1) j := by
  unfold madeF3
  by_cases h1 : j = x
  · rw [if_pos h1, if_pos (by omega), show n - 1 - j = i by omega]
  · rw [if_neg h1]
    by_cases h2 : n - i ≤ j
    · rw [if_pos h2, if_pos (by omega)]
    · rw [if_neg h2, if_neg (by omega)]
/-- What is made of a number, and whether it may be. -/
def MkPost (g : Bool) (n : Nat) (x : Int) (w : World) (e : Ending) (w' : World) : Prop := e = .returned (.tuple #[(mkD g n x).v, .int .i64 (mkE n x)]) ∧ Below w.heap.size w w'
theorem MkPost.no {g : Bool} {n : Nat} {x : Int} (h : ¬ mkOk3 n x) {w : World} {e : Ending} {w' : World} (he : e = .returned (.tuple #[.agg #[.bool false, .string ⟨#[]⟩, .int .i64 0], .int .i64 4])) (hb : Below w.heap.size w w') : MkPost g n x w e w' := by
  unfold MkPost
  rw [mkD_no h, mkE_no h, Dy.zero_v]
  exact ⟨he, hb⟩
theorem MkPost.zero {g : Bool} {x : Int} {w : World} {e : Ending} {w' : World} (he : e = .returned (.tuple #[.agg #[.bool false, .string ⟨#[]⟩, .int .i64 0], .int .i64 0])) (hb : Below w.heap.size w w') : MkPost g 0 x w e w' := by
  unfold MkPost
  rw [mkD_zero, mkE_zero, Dy.zero_v]
  exact ⟨he, hb⟩
theorem MkPost.ok {g : Bool} {n : Nat} {x : Int} (h0 : n ≠ 0) (h : mkOk3 n x) {w : World} {e : Ending} {w' : World} (he : e = .returned (.tuple #[.agg #[.bool g, .string (natS (odN n)), .int .i64 (x + lowN n)], .int .i64 0])) (hb : Below w.heap.size w w') : MkPost g n x w e w' := by
  unfold MkPost
  rw [mkD_ok h0 h, mkE_ok h]
  exact ⟨he, hb⟩
theorem box1 {w w1 : World} {b : Obj} (hb : Below (w.alloc b).heap.size (w.alloc b) w1) : w.heap.size < w1.heap.size := by have := hb.size; simp at this; omega
theorem lowN_bits {n m : Nat} (hn : nd 256 n ≤ m) : lowN n ≤ 8 * m := by
  by_cases h0 : n = 0
  · rw [h0, lowN_zero]; omega
  · have h1 := low_lt h0 (lowN_is n)
    have h2 := (bits_le n m).2 hn
    omega
set_option maxRecDepth 100000 in
theorem rFit3_zero (g : Bool) (x : Int) (A : Option Addr) (c : Nat) (w : World) :
    Calls Tryz.prog 127 #[.bool g, .slice A 0 c, .int .i64 x] w (MkPost g 0 x w) := by
  go_enter Tryz.func127, Tryz.ntmps127
  go_wp2
  refine bodyPost_ret (v := .tuple #[.agg #[.bool false, .string ⟨#[]⟩, .int .i64 0], .int .i64 0]) (by simp [results, Tryz.results127, go_sem]) rfl (MkPost.zero rfl ?_)
  repeat (refine Below.setCell ?_ (by simp) _)
  exact (Below.refl _ _).alloc (Nat.le_refl _) _
/-- The part of fit that all its ways share. -/
theorem fit_calls (n l o B : Nat) (A : Option Addr) (c : Nat) (w : World) (b : Obj) (h0 : n ≠ 0) (hl : l = lowN n) (ho : o = odN n) (hn : nd 256 n ≤ 100000) (h : Own w B 3 .i64 (.slice A (nd 256 n) c) (dl 256 n (nd 256 n))) :
    Hid (Calls Tryz.prog 170 #[.slice A (nd 256 n) c] (w.alloc b) fun e w' => e = .returned (.int .i64 (l : Nat)) ∧ w.alloc b = w') ∧
    Hid (Calls Tryz.prog 171 #[.slice A (nd 256 n) c, .int .i64 (l : Nat)] (w.alloc b) (BigP o (w.alloc b))) ∧ l ≤ 800000 := by
  have h1 : Own (w.alloc b) B 3 .i64 (.slice A (nd 256 n) c) (dl 256 n (nd 256 n)) := World.ownsRow.alloc h _
  have hlb := lowN_bits hn
  refine ⟨Lib.hid ?_, Lib.hid ?_, by omega⟩
  · rw [hl]; exact rLow3_c n (lowN n) (nd 256 n) B A c _ h0 (lowN_is n) (Nat.le_refl _) (by omega) h1
  · have := rHalved3_c n (l / 8) (l % 8) B A c _ (by omega) (by omega) (by omega) h1
    rw [show 8 * (l / 8) + l % 8 = l by omega] at this
    rw [ho]
    unfold odN
    rw [← hl]; exact this
set_option maxRecDepth 100000 in
set_option maxHeartbeats 1000000 in
theorem rFit3_no (g : Bool) (n : Nat) (x : Int) (B : Nat) (A : Option Addr) (c : Nat) (w : World) (h0 : n ≠ 0) (hno : ¬ mkOk3 n x) (hn : nd 256 n ≤ 100000) (hx : -9223372036854775808 ≤ x ∧ x ≤ 9223372036854775807) (h : Own w B 3 .i64 (.slice A (nd 256 n) c) (dl 256 n (nd 256 n))) :
    Calls Tryz.prog 127 #[.bool g, .slice A (nd 256 n) c, .int .i64 x] w (MkPost g n x w) := by
  obtain ⟨l, hl⟩ : ∃ l, l = lowN n := ⟨_, rfl⟩
  obtain ⟨o, ho⟩ : ∃ o, o = odN n := ⟨_, rfl⟩
  obtain ⟨L, hL⟩ : ∃ L, L = nd 256 n := ⟨_, rfl⟩
  have hc := fun b => fit_calls n l o B A c w b h0 hl ho hn h
  have hz : ((nd 256 n : Nat) : Int) ≠ 0 := by
    have : nd 256 n ≠ 0 := fun c => h0 ((nd_eq_zero (by omega)).1 c)
    omega
  have hz2 : (((nd 256 n : Nat) : Int) == 0) = false := by rw [beq_eq_false_iff_ne]; exact hz
  have hlb := (hc (.cells #[] 0)).2.2
  have hcase : 1048576 < x ∨ (¬ 1048576 < x ∧ x < -4194304) ∨ (¬ 1048576 < x ∧ ¬ x < -4194304 ∧ 1048576 < x + (l : Int)) ∨ (¬ 1048576 < x ∧ ¬ x < -4194304 ∧ ¬ 1048576 < x + (l : Int) ∧ x + (l : Int) < -1048576) ∨ (¬ 1048576 < x ∧ ¬ x < -4194304 ∧ ¬ 1048576 < x + (l : Int) ∧ ¬ x + (l : Int) < -1048576 ∧ 16384 < nd 256 o) := by
    unfold mkOk3 fits at hno
    rw [← hl, ← ho] at hno
    by_cases c1 : 1048576 < x
    · exact Or.inl c1
    by_cases c2 : x < -4194304
    · exact Or.inr (Or.inl ⟨c1, c2⟩)
    by_cases c3 : 1048576 < x + (l : Int)
    · exact Or.inr (Or.inr (Or.inl ⟨c1, c2, c3⟩))
    by_cases c4 : x + (l : Int) < -1048576
    · exact Or.inr (Or.inr (Or.inr (Or.inl ⟨c1, c2, c3, c4⟩)))
    by_cases c5 : 16384 < nd 256 o
    · exact Or.inr (Or.inr (Or.inr (Or.inr ⟨c1, c2, c3, c4, c5⟩)))
    · exact absurd (Or.inr ⟨by omega, by omega, by omega⟩) hno
  rw [← hL] at hz hz2 hc ⊢
  have HNO := Lib.hid hno
  have HC := Lib.hid (fun b => (hc b).1)
  have HH := Lib.hid (fun b => (hc b).2.1)
  clear hno hc hL hl ho h h0 hn
  rcases hcase with c1 | ⟨c1, c2⟩ | ⟨c1, c2, c3⟩ | ⟨c1, c2, c3, c4⟩ | ⟨c1, c2, c3, c4, c5⟩
  all_goals
    go_enter Tryz.func127, Tryz.ntmps127
    go_wp2_with (first
      | (go_at_call 170; refine ((HC.out _).out).mono ?_; rintro e w1 ⟨rfl, rfl⟩)
      | (go_at_call 171; refine ((HH.out _).out).mono ?_; rintro e w2 ⟨A5, c5, rfl, hown, hb⟩; obtain ⟨hcl, hfz⟩ := bcell hb; have hsz := box1 hb; clear hown))
    refine bodyPost_ret (v := .tuple #[.agg #[.bool false, .string ⟨#[]⟩, .int .i64 0], .int .i64 4]) (by simp [results, Tryz.results127, go_sem, hcl, hsz]) rfl (MkPost.no HNO.out rfl ?_)
    repeat (refine Below.setCell ?_ (by simp) _)
    exact box_below hb
end Go.Proofs.YtajcapliokblfaaGreatDoor
set_option linter.unusedSimpArgs false
set_option linter.unusedVariables false
namespace Go.Proofs.YtajcapliokblfaaGreatDoor
open Go Go.RowKit Nt

set_option maxRecDepth 100000 in
set_option maxHeartbeats 1000000 in
theorem rFit3_ok (g : Bool) (n : Nat) (x : Int) (B : Nat) (A : Option Addr) (c : Nat) (w : World) (h0 : n ≠ 0) (hok : mkOk3 n x) (hn : nd 256 n ≤ 100000) (h : Own w B 3 .i64 (.slice A (nd 256 n) c) (dl 256 n (nd 256 n))) :
    Calls Tryz.prog 127 #[.bool g, .slice A (nd 256 n) c, .int .i64 x] w (MkPost g n x w) := by
  obtain ⟨i0, hi0, hz0, hz1, hz2⟩ := info_parts (P := Tryz.prog) (e := 5) (z := .int .u8 0) (size := 1) (bytes := 1) (by kernel_rfl)
  obtain ⟨l, hl⟩ : ∃ l, l = lowN n := ⟨_, rfl⟩
  obtain ⟨o, ho⟩ : ∃ o, o = odN n := ⟨_, rfl⟩
  obtain ⟨L, hL⟩ : ∃ L, L = nd 256 n := ⟨_, rfl⟩
  have hc := fun b => fit_calls n l o B A c w b h0 hl ho hn h
  have hzz : ((nd 256 n : Nat) : Int) ≠ 0 := by
    have : nd 256 n ≠ 0 := fun c => h0 ((nd_eq_zero (by omega)).1 c)
    omega
  have hzz2 : (((nd 256 n : Nat) : Int) == 0) = false := by rw [beq_eq_false_iff_ne]; exact hzz
  have hlb := (hc (.cells #[] 0)).2.2
  have hcase : ¬ 1048576 < x ∧ ¬ x < -4194304 ∧ ¬ 1048576 < x + (l : Int) ∧ ¬ x + (l : Int) < -1048576 ∧ nd 256 o ≤ 16384 := by
    have hk := hok
    unfold mkOk3 fits at hk
    rw [← hl, ← ho] at hk
    rcases hk with hk | ⟨hk1, hk2, hk3⟩
    · exact absurd hk h0
    · exact ⟨by omega, by omega, by omega, by omega, hk1⟩
  have HOK := Lib.hid (fun (w' : World) (e : Ending) => @MkPost.ok g n x h0 hok w e w')
  rw [← hl, ← ho] at HOK
  rw [← hL] at hzz hzz2 hc ⊢
  have HC := Lib.hid (fun b => (hc b).1)
  have HH := Lib.hid (fun b => (hc b).2.1)
  obtain ⟨K, hK⟩ : ∃ K, K = nd 256 o := ⟨_, rfl⟩
  obtain ⟨c1, c2, c3, c4, c5⟩ := hcase
  rw [← hK] at c5
  have c6 : ¬ (16384 : Int) < (K : Int) := by omega
  have HK := Lib.hid hK
  have hHH : Hid (∀ b, Calls Tryz.prog 171 #[.slice A L c, .int .i64 (l : Nat)] (w.alloc b) fun e w' => ∃ A5 c5, e = .returned (.slice A5 K c5) ∧ DRow w' A5 o K ∧ Below (w.alloc b).heap.size (w.alloc b) w') := Lib.hid fun b => ((HH.out b).out).mono fun e w' ⟨A5, c5, e1, e2, e3⟩ => ⟨A5, c5, by rw [HK.out]; exact e1, by rw [HK.out]; exact e2.drow, e3⟩
  have hcf : Hid (∀ wr g, Blk wr g 5 (fcells .u8 (madeF3 K o K) K) → (convert 64 22 (.slice (some ⟨g, 0, none⟩) K K)).run Tryz.prog wr = .ok (.string (natS o)) wr) := Lib.hid fun wr g hblk => by
    have hN := HK.out
    have hl : ((dl 256 o (nd 256 o)).reverse.map UInt8.ofNat).length = K := by simp [dl_length, hN]
    have h := run_convert_bytes_back (P := Tryz.prog) wr 64 22 5 ⟨g, 0, none⟩ K ((dl 256 o (nd 256 o)).reverse.map UInt8.ofNat) Tryz.underlying64 Tryz.underlying5 Tryz.underlying22 (fun j hj => by
      have hj2 : j < K := by rw [← hl]; exact hj
      rw [add_plain0, hblk.cell, fcells_get _ _ _ _ hj2]
      have e := natS_get o j (by rw [natS_size, ← hN]; exact hj2)
      rw [ba_get] at e
      simp only [natS_def] at e
      rw [List.getElem_toArray] at e
      rw [e]
      unfold madeF3
      rw [if_pos (by omega), hN])
    rw [hl, ← natS_def] at h
    exact h
  clear hc hL hl ho h h0 hn hok HH hK
  go_enter Tryz.func127, Tryz.ntmps127
  go_wp2_with fail
  refine ((HC.out _).out).mono ?_
  rintro e w1 ⟨rfl, rfl⟩
  go_wp2_with fail
  refine (hHH.out _).mono ?_
  rintro e w1 ⟨A5, c5, rfl, hrow, hb0⟩
  have HROW := Lib.hid hrow
  have hb00 := box_below hb0
  have hszb := box1 hb0
  obtain ⟨hcl0, hfz0⟩ := bcell hb0
  have HB0 := Lib.hid hb0
  clear hrow hb0
  go_wp2_with (at_make; go_loud (refine wpList_make_zero _ rfl _ _ _ rfl 5 i0 _ Tryz.underlying64 hi0 hz0 hz1 .i64 .i64 _ _ K rfl rfl rfl rfl (by rw [hz2]; omega) (by unfold maxLen; omega) ?_))
  rw [fcells_made]
  have HBK := Lib.hid (Blk.new w1 5 (fcells .u8 (fun _ => 0) K))
  have hbl : Below w1.heap.size w1 (w1.alloc (.cells (fcells .u8 (fun _ => 0) K) 5)) := (Below.refl _ _).alloc (Nat.le_refl _) _
  generalize w1.alloc (.cells (fcells .u8 (fun _ => 0) K) 5) = w2 at *
  obtain ⟨gg, hg⟩ : ∃ gg, gg = w1.heap.size := ⟨_, rfl⟩
  rw [← hg] at HBK hbl ⊢
  have HG := Lib.hid hg
  clear hg hcl0 hfz0
  go_loopw [10] (fun i wr => ∃ q : Nat, q ≤ K ∧ i = .int .i64 q ∧ Hid (Blk wr gg 5 (fcells .u8 (madeF3 K o q) K)) ∧ Below gg w1 wr) (fun i _ => K - (intOf i).toNat)
  case atStart => exact ⟨0, Nat.zero_le _, rfl, by rw [fcells_congr (f' := fun _ => 0) (fun j hj => by unfold madeF3; rw [if_neg (by omega)])]; exact HBK, hbl⟩
  case round =>
    obtain ⟨q, hq, rfl, hblk, hb⟩ := hrel
    by_cases hlt : q < K
    · obtain ⟨y, hy⟩ : ∃ y, K = q + 1 + y := ⟨K - q - 1, by omega⟩
      obtain ⟨gb, hA, hgb, hcb⟩ := HROW.out q (by omega)
      have hcb2 := (hb.cell (p := ⟨gb, q, none⟩) (by have := HG.out; show gb < gg; omega)).trans hcb
      cases hA
      have hfz := hblk.out.frozen y
      have hck := hblk.out.cell y
      rw [fcells_get _ _ _ _ (by omega)] at hck
      have hxI : (K : Int) - 1 - (q : Int) = (y : Int) := by omega
      have hd := dgt_lt (b := 256) (by omega) o q
      have hwr : IntKind.u8.wrap ((dgt 256 o q : Nat) : Int) = ((dgt 256 o q : Nat) : Int) := by rw [wrap_u8, Nat.mod_eq_of_lt hd]
      have HX := Lib.hid hy
      clear hy hcb
      go_wp2
      have HB1 := Lib.hid (hblk.out.set_ y (.int .u8 ((dgt 256 o q : Nat) : Int)))
      rw [fcells_set, fcells_congr (f' := madeF3 K o (q + 1)) (fun j hj => madeF3_step HX.out hj)] at HB1
      have hb1 := hb.setCell (p := ⟨gg, y, none⟩) (Nat.le_refl _) (.int .u8 ((dgt 256 o q : Nat) : Int))
      go_roundw
      case rel => exact ⟨q + 1, by omega, by go_num, HB1, hb1⟩
      case measure => simp [intOf]; omega
    · obtain rfl : q = K := by omega
      have hcv := hcf.out wr gg hblk.out
      have hbt := HB0.out.trans (hb.mono (by have := HG.out; have := HB0.out.size; omega))
      obtain ⟨hcl, hfz⟩ := bcell hbt
      have hsz := box1 hbt
      have hw3 : wrap64 (x + (l : Int)) = x + (l : Int) := IntWalk.wrap64_in _ (by omega)
      have hbe := box_below hbt
      clear hb hblk
      go_wp2
      refine bodyPost_ret (v := .tuple #[.agg #[.bool g, .string (natS o), .int .i64 (x + l)], .int .i64 0]) (by simp [results, Tryz.results127, go_sem, hcl, hsz]) rfl (HOK.out _ _ rfl ?_)
      repeat (refine Below.setCell ?_ (by simp) _)
      exact hbe
end Go.Proofs.YtajcapliokblfaaGreatDoor
set_option linter.unusedSimpArgs false
set_option linter.unusedVariables false
namespace Go.Proofs.YtajcapliokblfaaGreatDoor
open Go Go.RowKit Nt

set_option maxRecDepth 100000 in
theorem rMake3_bad (g : Bool) (s : ByteArray) (x : Int) (w : World) (hs : s.size ≤ 9223372036854775807) (h : ¬ May s) :
    Calls Tryz.prog 71 #[.bool g, .string s, .int .i64 x] w fun e w' => e = .returned (.tuple #[.agg #[.bool false, .string ⟨#[]⟩, .int .i64 0], .int .i64 2]) ∧ Below w.heap.size w w' := by
  have hcase : 16384 < s.size ∨ (¬ 16384 < s.size ∧ ∃ hp : 0 < s.size, (s[0]'hp).toNat = 0) := by
    by_cases c : 16384 < s.size
    · exact Or.inl c
    · refine Or.inr ⟨c, ?_⟩
      by_cases hp : 0 < s.size
      · refine ⟨hp, ?_⟩
        by_cases h0 : (s[0]'hp).toNat = 0
        · exact h0
        · exact absurd ⟨by omega, fun _ => h0⟩ h
      · exact absurd ⟨by omega, fun c => absurd c hp⟩ h
  clear h
  rcases hcase with c | ⟨c, hp, h0⟩
  · go_enter Tryz.func71, Tryz.ntmps71
    go_wp2
    refine bodyPost_ret (v := .tuple #[.agg #[.bool false, .string ⟨#[]⟩, .int .i64 0], .int .i64 2]) (by simp [results, Tryz.results71, go_sem]) rfl ⟨rfl, ?_⟩
    repeat (refine Below.setCell ?_ (by simp) _)
    exact (Below.refl _ _).alloc (Nat.le_refl _) _
  · have hz := u8_eqz (s[0]'hp) h0
    have c' : ¬ (16384 : Int) < (s.size : Int) := by omega
    have H0 := Lib.hid h0
    clear h0
    go_enter Tryz.func71, Tryz.ntmps71
    go_wp2
    refine bodyPost_ret (v := .tuple #[.agg #[.bool false, .string ⟨#[]⟩, .int .i64 0], .int .i64 2]) (by simp [results, Tryz.results71, go_sem]) rfl ⟨rfl, ?_⟩
    repeat (refine Below.setCell ?_ (by simp) _)
    exact (Below.refl _ _).alloc (Nat.le_refl _) _
theorem rFit3_c (g : Bool) (n : Nat) (x : Int) (B : Nat) (A : Option Addr) (c : Nat) (w : World) (hn : nd 256 n ≤ 100000) (hx : -9223372036854775808 ≤ x ∧ x ≤ 9223372036854775807) (h : Own w B 3 .i64 (.slice A (nd 256 n) c) (dl 256 n (nd 256 n))) :
    Calls Tryz.prog 127 #[.bool g, .slice A (nd 256 n) c, .int .i64 x] w (MkPost g n x w) := by
  by_cases h0 : n = 0
  · subst h0
    rw [nd_zero]
    exact rFit3_zero g x A c w
  · by_cases hk : mkOk3 n x
    · exact rFit3_ok g n x B A c w h0 hk hn h
    · exact rFit3_no g n x B A c w h0 hk hn hx h
set_option maxRecDepth 100000 in
set_option maxHeartbeats 400000 in
theorem rMake3_c (g : Bool) (n : Nat) (x : Int) (w : World) (hf : fits n) (hx : -9223372036854775808 ≤ x ∧ x ≤ 9223372036854775807) :
    Calls Tryz.prog 71 #[.bool g, .string (natS n), .int .i64 x] w (MkPost g n x w) := by
  have hsz := natS_size n
  have hL : nd 256 n ≤ 16384 := hf
  have KO := Lib.hid (fun w => rOf3_c n w (by omega))
  have KF : Hid (∀ (B : Nat) (A : Option Addr) (c : Nat) (w : World), Own w B 3 .i64 (.slice A (nd 256 n) c) (dl 256 n (nd 256 n)) → Calls Tryz.prog 127 #[.bool g, .slice A (nd 256 n) c, .int .i64 x] w (MkPost g n x w)) := Lib.hid fun B A c w h => rFit3_c g n x B A c w (by omega) hx h
  have hcase : nd 256 n = 0 ∨ (0 < nd 256 n ∧ ∃ hp : 0 < (natS n).size, (((natS n)[0]'hp).toNat : Int) ≠ 0) := by
    rcases Nat.eq_zero_or_pos (nd 256 n) with c | c
    · exact Or.inl c
    · have hp : 0 < (natS n).size := by omega
      have := nat_first hf hp
      exact Or.inr ⟨c, hp, by omega⟩
  obtain ⟨L, hLL⟩ : ∃ L, L = nd 256 n := ⟨_, rfl⟩
  rw [← hLL] at hL hcase KF hsz KO
  have HL := Lib.hid hLL
  clear hLL hf hx
  rcases hcase with c | ⟨c, hp, h0⟩
  case' inl => subst c
  case' inr =>
    have hz : ((((natS n)[0]'hp).toNat : Int) == 0) = false := by rw [beq_eq_false_iff_ne]; exact h0
  all_goals
    go_enter Tryz.func71, Tryz.ntmps71
    go_wp2_with fail
    refine (KO.out _).mono ?_
    rintro e w1 ⟨v, rfl, hown, hb⟩
    obtain ⟨A1, c1, rfl, hc1⟩ := hown.len
    rw [dl_length] at hown hc1 ⊢
    obtain ⟨hcl, hfz⟩ := bcell hb
    have hsz1 := box1 hb
    have HOW := Lib.hid hown
    clear hown hc1
    go_wp2_with fail
    refine (KF.out _ _ _ _ HOW.out).mono ?_
    rintro e w2 ⟨rfl, hb2⟩
    have hb12 := hb.trans (hb2.mono hb.size)
    obtain ⟨hcl2, hfz2⟩ := bcell hb12
    have hsz2 := box1 hb12
    have hbe := box_below hb12
    clear hb hb2 hcl hfz hsz1
    unfold Dy.v
    go_wp2_with fail
    refine bodyPost_ret (v := .tuple #[(mkD g n x).v, .int .i64 (mkE n x)]) (by simp [results, Tryz.results71, go_sem, hcl2, hsz2, Dy.v]) rfl ⟨rfl, ?_⟩
    repeat (refine Below.setCell ?_ (by simp) _)
    exact hbe
end Go.Proofs.YtajcapliokblfaaGreatDoor
set_option linter.unusedSimpArgs false
set_option linter.unusedVariables false
namespace Go.Proofs.YtajcapliokblfaaGreatDoor
open Go Go.RowKit Nt

set_option maxRecDepth 100000 in
theorem DMake_bad (g : Bool) (s : ByteArray) (x : Int) (w : World) (h : ¬ May s) :
    Calls Tryz.prog 69 #[.bool g, .string s, .int .i64 x] w fun e w' => e = .returned (.tuple #[.agg #[.bool false, .string ⟨#[]⟩, .int .i64 0], .int .i64 2]) ∧ Below w.heap.size w w' := by
  have H := Lib.hid h
  clear h
  go_enter Tryz.func69, Tryz.ntmps69
  go_wp2_with (go_at_call 68; refine (NLow_no _ _ H.out).mono ?_; rintro e w1 ⟨rfl, hb⟩; obtain ⟨hcl, hfz⟩ := bcell hb; have hsz := box1 hb)
  refine bodyPost_ret (v := .tuple #[.agg #[.bool false, .string ⟨#[]⟩, .int .i64 0], .int .i64 2]) (by simp [results, Tryz.results69, go_sem, hcl, hsz]) rfl ⟨rfl, ?_⟩
  repeat (refine Below.setCell ?_ (by simp) _)
  exact box_below hb
set_option maxRecDepth 100000 in
theorem DMake_zero (g : Bool) (x : Int) (w : World) :
    Calls Tryz.prog 69 #[.bool g, .string (natS 0), .int .i64 x] w (MkPost g 0 x w) := by
  have K := Lib.hid (fun w => NLow_c 0 0 w fits_zero ⟨fun _ => rfl, fun c => absurd rfl c⟩)
  rw [natS_zero] at K ⊢
  go_enter Tryz.func69, Tryz.ntmps69
  go_wp2_with (go_at_call 68; refine (K.out _).mono ?_; rintro e w1 ⟨rfl, hb⟩; obtain ⟨hcl, hfz⟩ := bcell hb; have hsz := box1 hb)
  refine bodyPost_ret (v := .tuple #[.agg #[.bool false, .string ⟨#[]⟩, .int .i64 0], .int .i64 0]) (by simp [results, Tryz.results69, go_sem, hcl, hsz]) rfl (MkPost.zero rfl ?_)
  repeat (refine Below.setCell ?_ (by simp) _)
  exact box_below hb
set_option maxRecDepth 100000 in
set_option maxHeartbeats 1000000 in
theorem DMake_no (g : Bool) (n : Nat) (x : Int) (w : World) (hf : fits n) (h0 : n ≠ 0) (hno : ¬ mkOk3 n x) (hx : -9223372036854775808 ≤ x ∧ x ≤ 9223372036854775807) :
    Calls Tryz.prog 69 #[.bool g, .string (natS n), .int .i64 x] w (MkPost g n x w) := by
  obtain ⟨l, hl⟩ : ∃ l, l = lowN n := ⟨_, rfl⟩
  have hll := low_lt h0 (lowN_is n)
  have hbb := bits_131072' hf
  have K := Lib.hid (fun w => NLow_c n l w hf (hl ▸ lowN_is n))
  have hE := natS_full h0
  have hE2 := natS_full2 h0
  have hlb : l ≤ 131072 := by omega
  have hcase : 1048576 < x ∨ (¬ 1048576 < x ∧ x < -1179648) ∨ (¬ 1048576 < x ∧ ¬ x < -1179648 ∧ 1048576 < x + (l : Int)) ∨ (¬ 1048576 < x ∧ ¬ x < -1179648 ∧ ¬ 1048576 < x + (l : Int) ∧ x + (l : Int) < -1048576) := by
    have ho : fits (odN n) := by unfold fits at *; exact Nat.le_trans (nd_mono (by omega) (odN_le n)) hf
    unfold mkOk3 at hno
    rw [← hl] at hno
    by_cases c1 : 1048576 < x
    · exact Or.inl c1
    by_cases c2 : x < -1179648
    · exact Or.inr (Or.inl ⟨c1, c2⟩)
    by_cases c3 : 1048576 < x + (l : Int)
    · exact Or.inr (Or.inr (Or.inl ⟨c1, c2, c3⟩))
    by_cases c4 : x + (l : Int) < -1048576
    · exact Or.inr (Or.inr (Or.inr ⟨c1, c2, c3, c4⟩))
    · exact absurd (Or.inr ⟨ho, by omega, by omega⟩) hno
  have HNO := Lib.hid hno
  clear hno hl hll hbb hf h0
  rcases hcase with c1 | ⟨c1, c2⟩ | ⟨c1, c2, c3⟩ | ⟨c1, c2, c3, c4⟩
  all_goals
    go_enter Tryz.func69, Tryz.ntmps69
    go_wp2_with (go_at_call 68; refine (K.out _).mono ?_; rintro e w1 ⟨rfl, hb⟩; obtain ⟨hcl, hfz⟩ := bcell hb; have hsz := box1 hb)
    refine bodyPost_ret (v := .tuple #[.agg #[.bool false, .string ⟨#[]⟩, .int .i64 0], .int .i64 4]) (by simp [results, Tryz.results69, go_sem, hcl, hsz]) rfl (MkPost.no HNO.out rfl ?_)
    repeat (refine Below.setCell ?_ (by simp) _)
    exact box_below hb
set_option maxRecDepth 100000 in
set_option maxHeartbeats 1000000 in
theorem DMake_ok (g : Bool) (n : Nat) (x : Int) (w : World) (hf : fits n) (h0 : n ≠ 0) (hok : mkOk3 n x) :
    Calls Tryz.prog 69 #[.bool g, .string (natS n), .int .i64 x] w (MkPost g n x w) := by
  obtain ⟨l, hl⟩ : ∃ l, l = lowN n := ⟨_, rfl⟩
  obtain ⟨o, ho⟩ : ∃ o, o = odN n := ⟨_, rfl⟩
  have hll := low_lt h0 (lowN_is n)
  rw [← hl] at hll
  have hbb := bits_131072' hf
  have K := Lib.hid (fun w => NLow_c n l w hf (hl ▸ lowN_is n))
  have KS : Hid (0 < l → ∀ w, Calls Tryz.prog 64 #[.string (natS n), .int .i64 (-(l : Int))] w (StrPost (natS o) 0 w)) := Lib.hid fun hl0 w => by
    have := NShift_down n l w hf h0 hl0 hll
    rw [hl] at this ⊢
    rw [ho]; exact this
  have hE := natS_full h0
  have hE2 := natS_full2 h0
  have hlb : l ≤ 131072 := by omega
  have hcase : ¬ 1048576 < x ∧ ¬ x < -1179648 ∧ ¬ 1048576 < x + (l : Int) ∧ ¬ x + (l : Int) < -1048576 := by
    have hk := hok
    unfold mkOk3 at hk
    rw [← hl] at hk
    rcases hk with hk | ⟨hk1, hk2, hk3⟩
    · exact absurd hk h0
    · exact ⟨by omega, by omega, by omega, by omega⟩
  have HOK := Lib.hid (fun (w' : World) (e : Ending) => @MkPost.ok g n x h0 hok w e w')
  rw [← hl, ← ho] at HOK
  have hon : l = 0 → o = n := fun c => by rw [ho]; unfold odN; rw [← hl, c, Nat.pow_zero, Nat.div_one]
  obtain ⟨c1, c2, c3, c4⟩ := hcase
  have HON := Lib.hid hon
  clear hok hl ho hll hbb hf h0 hon
  rcases Nat.eq_zero_or_pos l with hz | hz
  · subst hz
    obtain rfl := HON.out rfl
    go_enter Tryz.func69, Tryz.ntmps69
    go_wp2_with (go_at_call 68; refine (K.out _).mono ?_; rintro e w1 ⟨rfl, hb⟩; obtain ⟨hcl, hfz⟩ := bcell hb; have hsz := box1 hb)
    refine bodyPost_ret (v := .tuple #[.agg #[.bool g, .string (natS o), .int .i64 (x + ((0 : Nat) : Int))], .int .i64 0]) (by simp [results, Tryz.results69, go_sem, hcl, hsz]) rfl (HOK.out _ _ rfl ?_)
    repeat (refine Below.setCell ?_ (by simp) _)
    exact box_below hb
  · go_enter Tryz.func69, Tryz.ntmps69
    go_wp2_with (first
      | (go_at_call 68; refine (K.out _).mono ?_; rintro e w1 ⟨rfl, hb⟩)
      | (go_at_call 64; refine (KS.out hz _).mono ?_; rintro e w2 ⟨rfl, hb2⟩; have hb12 := hb.trans (hb2.mono hb.size); obtain ⟨hcl, hfz⟩ := bcell hb12; have hsz := box1 hb12))
    refine bodyPost_ret (v := .tuple #[.agg #[.bool g, .string (natS o), .int .i64 (x + (l : Int))], .int .i64 0]) (by simp [results, Tryz.results69, go_sem, hcl, hsz]) rfl (HOK.out _ _ rfl ?_)
    repeat (refine Below.setCell ?_ (by simp) _)
    exact box_below hb12
theorem DMake_c (g : Bool) (n : Nat) (x : Int) (w : World) (hf : fits n) (hx : -9223372036854775808 ≤ x ∧ x ≤ 9223372036854775807) :
    Calls Tryz.prog 69 #[.bool g, .string (natS n), .int .i64 x] w (MkPost g n x w) := by
  by_cases h0 : n = 0
  · subst h0; exact DMake_zero g x w
  · by_cases hk : mkOk3 n x
    · exact DMake_ok g n x w hf h0 hk
    · exact DMake_no g n x w hf h0 hk hx
end Go.Proofs.YtajcapliokblfaaGreatDoor
set_option linter.unusedSimpArgs false
set_option linter.unusedVariables false
namespace Go.Proofs.YtajcapliokblfaaGreatDoor
open Go Go.RowKit Nt

theorem NSh_c (a n : Nat) (w : World) (hf : fits a) (hn : n ≤ 1048576) : Calls Tryz.prog 64 #[.string (natS a), .int .i64 (n : Nat)] w (StrPost (resS (a * 2 ^ n)) (resE (a * 2 ^ n)) w) := by
  by_cases h0 : a = 0
  · subst h0; rw [Nat.zero_mul, resS_ok hf, resE_ok hf]; exact NShift_zero n w
  · by_cases h1 : n = 0
    · subst h1; rw [Nat.pow_zero, Nat.mul_one, resS_ok hf, resE_ok hf]; exact NShift_stay a w hf h0
    · by_cases h2 : fits (a * 2 ^ n)
      · rw [resS_ok h2, resE_ok h2]; exact NShift_up a n w hf h0 (Nat.pos_of_ne_zero h1) h2
      · rw [resS_no h2, resE_no h2]; exact NShift_long a n w hf h0 (Nat.pos_of_ne_zero h1) h2 (by omega)
theorem rSh_c (a n : Nat) (w : World) (hf : fits a) : Calls Tryz.prog 66 #[.string (natS a), .int .i64 (n : Nat)] w (StrPost (resS (a * 2 ^ n)) (resE (a * 2 ^ n)) w) := by
  by_cases h0 : a = 0 ∨ n = 0
  · have e : a * 2 ^ n = a := by rcases h0 with h | h <;> subst h <;> simp
    rw [e, resS_ok hf, resE_ok hf]
    exact rShift_same a n w (by rcases h0 with h | h; exact Or.inl h; exact Or.inr (by omega))
  · exact rShift_up a n w (fun c => h0 (Or.inl c)) (fun c => h0 (Or.inr c)) hf
set_option maxRecDepth 100000 in
set_option maxHeartbeats 1000000 in
theorem rNew_no1 (g : Bool) (s t : ByteArray) (h : ¬ May s) (hz : s.size ≤ 5000) (w : World) : Calls Tryz.prog 13 #[.bool g, .string s, .string t] w fun e' w' => e' = .returned (.tuple #[.agg #[.bool false, .string ⟨#[]⟩, .string ⟨#[]⟩], .int .i64 2]) ∧ Below w.heap.size w w' := by
  have K1 := Lib.hid (fun w => rMayNo h (by omega) w)
  clear h hz
  have T0 := BR.start0 w false (.string ⟨#[]⟩) (.string ⟨#[]⟩) 24
  go_enter Tryz.func13, Tryz.ntmps13
  go_wp2_with fail
  refine (K1.out _).mono ?_
  rintro ee w1 ⟨rfl, hb⟩
  replace T0 := T0.step hb
  clear hb
  obtain ⟨q0, q1, q2, q3, q4, q5, q6⟩ := T0.res0
  have hfin := below_put3 T0.1 (Nat.le_refl _)
  go_wp2_with fail
  refine bodyPost_ret (v := .tuple #[.agg #[.bool false, .string ⟨#[]⟩, .string ⟨#[]⟩], .int .i64 2]) (by simp [results, Tryz.results13, go_sem, q0, q1, q2, q3]) rfl ⟨rfl, hfin _ _ _⟩
set_option maxRecDepth 100000 in
set_option maxHeartbeats 1000000 in
theorem rNew_no2 (g : Bool) (s t : ByteArray) (h : May s) (h2 : ¬ May t) (hz : s.size ≤ 5000) (hz2 : t.size ≤ 5000) (w : World) : Calls Tryz.prog 13 #[.bool g, .string s, .string t] w fun e' w' => e' = .returned (.tuple #[.agg #[.bool false, .string ⟨#[]⟩, .string ⟨#[]⟩], .int .i64 2]) ∧ Below w.heap.size w w' := by
  have K1 := Lib.hid (fun w => rMayOk h (by omega) w)
  have K2 := Lib.hid (fun w => rMayNo h2 (by omega) w)
  clear h h2 hz hz2
  have T0 := BR.start0 w false (.string ⟨#[]⟩) (.string ⟨#[]⟩) 24
  go_enter Tryz.func13, Tryz.ntmps13
  go_wp2_with fail
  refine (K1.out _).mono ?_
  rintro ee w1 ⟨rfl, hb⟩
  replace T0 := T0.step hb
  clear hb
  go_wp2_with fail
  refine (K2.out _).mono ?_
  rintro ee w2 ⟨rfl, hb⟩
  replace T0 := T0.step hb
  clear hb
  obtain ⟨q0, q1, q2, q3, q4, q5, q6⟩ := T0.res0
  have hfin := below_put3 T0.1 (Nat.le_refl _)
  go_wp2_with fail
  refine bodyPost_ret (v := .tuple #[.agg #[.bool false, .string ⟨#[]⟩, .string ⟨#[]⟩], .int .i64 2]) (by simp [results, Tryz.results13, go_sem, q0, q1, q2, q3]) rfl ⟨rfl, hfin _ _ _⟩
set_option maxRecDepth 100000 in
set_option maxHeartbeats 1000000 in
theorem rNew_no3 (g : Bool) (s : ByteArray) (h : May s) (hz : s.size ≤ 5000) (w : World) : Calls Tryz.prog 13 #[.bool g, .string s, .string ⟨#[]⟩] w fun e' w' => e' = .returned (.tuple #[.agg #[.bool false, .string ⟨#[]⟩, .string ⟨#[]⟩], .int .i64 2]) ∧ Below w.heap.size w w' := by
  have K1 := Lib.hid (fun w => rMayOk h (by omega) w)
  have K2 := Lib.hid (fun w => rMayOk (s := ⟨#[]⟩) ⟨by decide, fun h => absurd h (by decide)⟩ (by decide) w)
  have d1 : (ByteArray.mk #[]).toList = [] := by rw [ba_toList]
  clear h hz
  have T0 := BR.start0 w false (.string ⟨#[]⟩) (.string ⟨#[]⟩) 24
  go_enter Tryz.func13, Tryz.ntmps13
  go_wp2_with fail
  refine (K1.out _).mono ?_
  rintro ee w1 ⟨rfl, hb⟩
  replace T0 := T0.step hb
  clear hb
  go_wp2_with fail
  refine (K2.out _).mono ?_
  rintro ee w2 ⟨rfl, hb⟩
  replace T0 := T0.step hb
  clear hb
  obtain ⟨q0, q1, q2, q3, q4, q5, q6⟩ := T0.res0
  have hfin := below_put3 T0.1 (Nat.le_refl _)
  go_wp2_with fail
  refine bodyPost_ret (v := .tuple #[.agg #[.bool false, .string ⟨#[]⟩, .string ⟨#[]⟩], .int .i64 2]) (by simp [results, Tryz.results13, go_sem, q0, q1, q2, q3]) rfl ⟨rfl, hfin _ _ _⟩
set_option maxRecDepth 100000 in
set_option maxHeartbeats 1000000 in
theorem rNew_ok (g : Bool) (n d : Nat) (hn : fits n) (hd : fits d) (hd0 : d ≠ 0) (z1 : nd 256 n ≤ 5000) (z2 : nd 256 d ≤ 5000) (w : World) : Calls Tryz.prog 13 #[.bool g, .string (natS n), .string (natS d)] w fun e' w' => e' = .returned (.tuple #[qv (fr g n d), .int .i64 0]) ∧ Below w.heap.size w w' := by
  have K1 := Lib.hid (fun w => rMayOk ((may_natS n).2 hn) (by rw [natS_size]; omega) w)
  have K2 := Lib.hid (fun w => rMayOk ((may_natS d).2 hd) (by rw [natS_size]; omega) w)
  have K3 := Lib.hid (fun w => rLow4_c g n d w hd0 z1 z2)
  have d1 := natS_full hd0
  have d2 := natS_full2 hd0
  clear hn hd hd0 z1 z2
  unfold qv at *
  generalize fr g n d = z at *
  have T0 := BR.start0 w false (.string ⟨#[]⟩) (.string ⟨#[]⟩) 24
  go_enter Tryz.func13, Tryz.ntmps13
  go_wp2_with fail
  refine (K1.out _).mono ?_
  rintro ee w1 ⟨rfl, hb⟩
  replace T0 := T0.step hb
  clear hb
  go_wp2_with fail
  refine (K2.out _).mono ?_
  rintro ee w2 ⟨rfl, hb⟩
  replace T0 := T0.step hb
  clear hb
  go_wp2_with fail
  refine (K3.out _).mono ?_
  rintro ee w3 ⟨rfl, hb⟩
  replace T0 := T0.step hb
  clear hb
  obtain ⟨q0, q1, q2, q3, q4, q5, q6⟩ := T0.res0
  have hfin := below_put3 T0.1 (Nat.le_refl _)
  go_wp2_with fail
  refine bodyPost_ret (v := .tuple #[.agg #[.bool (qG z), .string (natS (qN z)), .string (natS (qD z))], .int .i64 0]) (by simp [results, Tryz.results13, go_sem, q0, q1, q2, q3]) rfl ⟨rfl, hfin _ _ _⟩
theorem fr_whole (g : Bool) (z : Int) (h : (g = true ∧ z < 0) ∨ (g = false ∧ 0 ≤ z)) : fr g z.natAbs 1 = (z : Rat) := by
  have e : sgI g z.natAbs = z := by
    rcases h with ⟨rfl, h⟩ | ⟨rfl, h⟩
    · rw [sgI_true]; omega
    · rw [sgI_false]; omega
  unfold fr
  rw [e]
  have := Rat.mkRat_self (z : Rat)
  rwa [Rat.num_intCast, Rat.den_intCast] at this
theorem nd_w {n : Nat} (h : n < 18446744073709551616) : nd 256 n ≤ 5000 := Nat.le_trans (br_lt.2 h) (by decide)
theorem fits_w {n : Nat} (h : n < 18446744073709551616) : fits n := Nat.le_trans (br_lt.2 h) (by decide)
set_option maxRecDepth 100000 in
set_option maxHeartbeats 1000000 in
theorem rWhole_p (z : Int) (h1 : -9223372036854775808 ≤ z) (h2 : z ≤ 9223372036854775807) (hz : 0 ≤ z) (w : World) : Calls Tryz.prog 21 #[.int .i64 z] w fun e' w' => e' = .returned (qv (z : Rat)) ∧ Below w.heap.size w w' := by
  have hz1 : decide (z < 0) = false := decide_eq_false (by omega)
  have hw : IntKind.u64.wrap z = (z.natAbs : Int) := by rw [IntKind.wrap_u64]; omega
  have hf : fits z.natAbs := fits_w (by omega)
  have hn8 : nd 256 z.natAbs ≤ 5000 := nd_w (by omega)
  have K1 := Lib.hid (fun w => rOf_c z.natAbs w (by omega))
  have K2 : Hid (∀ w, Calls Tryz.prog 62 #[.bool false, .string (natS z.natAbs), .string ⟨#[1]⟩] w fun e w' => e = .returned (qv (z : Rat)) ∧ Below w.heap.size w w') := Lib.hid fun w => by
    have h := rLow4_c false z.natAbs 1 w (by decide) hn8 (by rw [nd_unique (b := 256) (n := 1) (k := 0) (by omega) (by decide) (by decide)]; omega)
    rw [natS_1r, fr_whole false z (Or.inr ⟨rfl, hz⟩)] at h
    exact h
  clear h1 h2 hf hn8
  unfold qv at *
  generalize (z : Rat) = x at *
  generalize z.natAbs = a at *
  have T0 := BR.start0 w false (.string ⟨#[]⟩) (.string ⟨#[]⟩) 24
  go_enter Tryz.func21, Tryz.ntmps21
  go_wp2_with fail
  refine (K1.out _).mono ?_
  rintro ee w1 ⟨rfl, hb⟩
  replace T0 := T0.step hb
  clear hb
  go_wp2_with fail
  refine (K2.out _).mono ?_
  rintro ee w2 ⟨rfl, hb⟩
  replace T0 := T0.step hb
  clear hb
  obtain ⟨q0, q1, q2, q3, q4, q5, q6⟩ := T0.res0
  have hfin := below_put3 T0.1 (Nat.le_refl _)
  go_wp2_with fail
  refine bodyPost_ret (v := .agg #[.bool (qG x), .string (natS (qN x)), .string (natS (qD x))]) (by simp [results, Tryz.results21, go_sem, q0, q1, q2, q3]) rfl ⟨rfl, hfin _ _ _⟩
set_option maxRecDepth 100000 in
set_option maxHeartbeats 1000000 in
theorem rWhole_n (z : Int) (h1 : -9223372036854775808 ≤ z) (h2 : z ≤ 9223372036854775807) (hz : z < 0) (w : World) : Calls Tryz.prog 21 #[.int .i64 z] w fun e' w' => e' = .returned (qv (z : Rat)) ∧ Below w.heap.size w w' := by
  have hz1 : decide (z < 0) = true := decide_eq_true hz
  have hw : IntKind.u64.wrap z = z + 18446744073709551616 := by rw [IntKind.wrap_u64]; omega
  have hw2 : IntKind.u64.wrap (-(z + 18446744073709551616)) = (z.natAbs : Int) := by rw [IntKind.wrap_u64]; omega
  have hf : fits z.natAbs := fits_w (by omega)
  have hn8 : nd 256 z.natAbs ≤ 5000 := nd_w (by omega)
  have K1 := Lib.hid (fun w => rOf_c z.natAbs w (by omega))
  have K2 : Hid (∀ w, Calls Tryz.prog 62 #[.bool true, .string (natS z.natAbs), .string ⟨#[1]⟩] w fun e w' => e = .returned (qv (z : Rat)) ∧ Below w.heap.size w w') := Lib.hid fun w => by
    have h := rLow4_c true z.natAbs 1 w (by decide) hn8 (by rw [nd_unique (b := 256) (n := 1) (k := 0) (by omega) (by decide) (by decide)]; omega)
    rw [natS_1r, fr_whole true z (Or.inl ⟨rfl, hz⟩)] at h
    exact h
  clear h1 h2 hf hn8
  unfold qv at *
  generalize (z : Rat) = x at *
  generalize z.natAbs = a at *
  have T0 := BR.start0 w false (.string ⟨#[]⟩) (.string ⟨#[]⟩) 24
  go_enter Tryz.func21, Tryz.ntmps21
  go_wp2_with fail
  refine (K1.out _).mono ?_
  rintro ee w1 ⟨rfl, hb⟩
  replace T0 := T0.step hb
  clear hb
  go_wp2_with fail
  refine (K2.out _).mono ?_
  rintro ee w2 ⟨rfl, hb⟩
  replace T0 := T0.step hb
  clear hb
  obtain ⟨q0, q1, q2, q3, q4, q5, q6⟩ := T0.res0
  have hfin := below_put3 T0.1 (Nat.le_refl _)
  go_wp2_with fail
  refine bodyPost_ret (v := .agg #[.bool (qG x), .string (natS (qN x)), .string (natS (qD x))]) (by simp [results, Tryz.results21, go_sem, q0, q1, q2, q3]) rfl ⟨rfl, hfin _ _ _⟩
end Go.Proofs.YtajcapliokblfaaGreatDoor
set_option linter.unusedSimpArgs false
set_option linter.unusedVariables false
namespace Go.Proofs.YtajcapliokblfaaGreatDoor
open Go Go.RowKit Nt

theorem Sh_one0 (w : World) : Calls Tryz.prog 64 #[.string ⟨#[1]⟩, .int .i64 0] w fun e w' => e = .returned (.tuple #[.string ⟨#[1]⟩, .int .i64 0]) ∧ Below w.heap.size w w' := by
  have h := NShift_stay 1 w fits_1r (by decide)
  rw [natS_1r] at h; exact h
theorem Sh_nul0 (w : World) : Calls Tryz.prog 64 #[.string ⟨#[]⟩, .int .i64 0] w fun e w' => e = .returned (.tuple #[.string ⟨#[]⟩, .int .i64 0]) ∧ Below w.heap.size w w' := by
  have h := NShift_zero 0 w
  rw [natS_zero] at h; exact h
theorem Sh_ok (a k : Nat) (w : World) (hf : fits a) (hk : k ≤ 1048576) (h : fits (a * 2 ^ k)) : Calls Tryz.prog 64 #[.string (natS a), .int .i64 (k : Nat)] w fun e w' => e = .returned (.tuple #[.string (natS (a * 2 ^ k)), .int .i64 0]) ∧ Below w.heap.size w w' := by
  have hh := NSh_c a k w hf hk
  rwa [resS_ok h, resE_ok h] at hh
theorem Sh_no (a k : Nat) (w : World) (hf : fits a) (hk : k ≤ 1048576) (h : ¬ fits (a * 2 ^ k)) : Calls Tryz.prog 64 #[.string (natS a), .int .i64 (k : Nat)] w fun e w' => e = .returned (.tuple #[.string ⟨#[]⟩, .int .i64 4]) ∧ Below w.heap.size w w' := by
  have hh := NSh_c a k w hf hk
  rwa [resS_no h, resE_no h] at hh
theorem rSh_ok (a k : Nat) (w : World) (hf : fits a) (h : fits (a * 2 ^ k)) : Calls Tryz.prog 66 #[.string (natS a), .int .i64 (k : Nat)] w fun e w' => e = .returned (.tuple #[.string (natS (a * 2 ^ k)), .int .i64 0]) ∧ Below w.heap.size w w' := by
  have hh := rSh_c a k w hf
  rwa [resS_ok h, resE_ok h] at hh
theorem rSh_no (a k : Nat) (w : World) (hf : fits a) (h : ¬ fits (a * 2 ^ k)) : Calls Tryz.prog 66 #[.string (natS a), .int .i64 (k : Nat)] w fun e w' => e = .returned (.tuple #[.string ⟨#[]⟩, .int .i64 4]) ∧ Below w.heap.size w w' := by
  have hh := rSh_c a k w hf
  rwa [resS_no h, resE_no h] at hh
theorem max_f (k : Nat) : max (k : Int) 0 = (k : Int) ∧ max 0 (k : Int) = (k : Int) ∧ max (-(k : Int)) 0 = 0 ∧ max 0 (-(k : Int)) = 0 := by omega
set_option maxRecDepth 100000 in
set_option maxHeartbeats 200000 in
theorem POf_bad (g : Bool) (s : ByteArray) (x : Int) (h : ¬ DOk g s x) (hz : s.size ≤ 9223372036854775807) (w : World) : Calls Tryz.prog 14 #[.agg #[.bool g, .string s, .int .i64 x]] w fun e' w' => e' = .returned (.tuple #[.agg #[.bool false, .string ⟨#[]⟩, .string ⟨#[]⟩], .int .i64 2]) ∧ Below w.heap.size w w' := by
  have K1 := Lib.hid (fun w => DCheck_bad g s x w hz h)
  clear h hz
  obtain ⟨bl, hbl⟩ : ∃ bl : List C3, bl = [(.bool g, .string s, .int .i64 x)] := ⟨_, rfl⟩
  have hbn : bl.length = 1 := by rw [hbl]; rfl
  have T0 := BR.start1 w (.bool g) (.string s) (.int .i64 x) false (.string ⟨#[]⟩) (.string ⟨#[]⟩) 26 24
  rw [← hbl] at T0
  have HBL := Lib.hid hbl
  clear hbl
  go_enter Tryz.func14, Tryz.ntmps14
  go_wp2_with fail
  refine (K1.out _).mono ?_
  rintro ee w1 ⟨rfl, hb⟩
  replace T0 := T0.step hb
  clear hb
  obtain ⟨p0, p1, p2, p3, p4, p5, p6⟩ := T0.boxZ (.bool g, .string s, .int .i64 x) (by rw [HBL.out]; rfl)
  obtain ⟨q0, q1, q2, q3, q4, q5, q6⟩ := T0.res (n := 1) hbn
  have hfin := below_put3 T0.1 (show w.heap.size ≤ w.heap.size + 1 by omega)
  go_wp2_with fail
  refine bodyPost_ret (v := .tuple #[.agg #[.bool false, .string ⟨#[]⟩, .string ⟨#[]⟩], .int .i64 2]) (by simp [results, Tryz.results14, go_sem, q0, q1, q2, q3]) rfl ⟨rfl, hfin _ _ _⟩
set_option maxRecDepth 100000 in
set_option maxHeartbeats 200000 in
theorem rOf_bad (g : Bool) (s : ByteArray) (x : Int) (h : ¬ DOk g s x) (hz : s.size ≤ 9223372036854775807) (w : World) : Calls Tryz.prog 15 #[.agg #[.bool g, .string s, .int .i64 x]] w fun e' w' => e' = .returned (.tuple #[.agg #[.bool false, .string ⟨#[]⟩, .string ⟨#[]⟩], .int .i64 2]) ∧ Below w.heap.size w w' := by
  have K1 := Lib.hid (fun w => rMay3_bad g s x w hz h)
  clear h hz
  obtain ⟨bl, hbl⟩ : ∃ bl : List C3, bl = [(.bool g, .string s, .int .i64 x)] := ⟨_, rfl⟩
  have hbn : bl.length = 1 := by rw [hbl]; rfl
  have T0 := BR.start1 w (.bool g) (.string s) (.int .i64 x) false (.string ⟨#[]⟩) (.string ⟨#[]⟩) 26 24
  rw [← hbl] at T0
  have HBL := Lib.hid hbl
  clear hbl
  go_enter Tryz.func15, Tryz.ntmps15
  go_wp2_with fail
  refine (K1.out _).mono ?_
  rintro ee w1 ⟨rfl, hb⟩
  replace T0 := T0.step hb
  clear hb
  obtain ⟨p0, p1, p2, p3, p4, p5, p6⟩ := T0.boxZ (.bool g, .string s, .int .i64 x) (by rw [HBL.out]; rfl)
  obtain ⟨q0, q1, q2, q3, q4, q5, q6⟩ := T0.res (n := 1) hbn
  have hfin := below_put3 T0.1 (show w.heap.size ≤ w.heap.size + 1 by omega)
  go_wp2_with fail
  refine bodyPost_ret (v := .tuple #[.agg #[.bool false, .string ⟨#[]⟩, .string ⟨#[]⟩], .int .i64 2]) (by simp [results, Tryz.results15, go_sem, q0, q1, q2, q3]) rfl ⟨rfl, hfin _ _ _⟩
set_option maxRecDepth 100000 in
set_option maxHeartbeats 200000 in
theorem POf_zero  (w : World) : Calls Tryz.prog 14 #[.agg #[.bool false, .string ⟨#[]⟩, .int .i64 0]] w fun e' w' => e' = .returned (.tuple #[.agg #[.bool false, .string ⟨#[]⟩, .string ⟨#[1]⟩], .int .i64 0]) ∧ Below w.heap.size w w' := by
  have K1 := Lib.hid (fun w => DCheck_zero w)
  have K2 := Lib.hid (fun w => Sh_nul0 w)
  have K3 := Lib.hid (fun w => Sh_one0 w)
  obtain ⟨bl, hbl⟩ : ∃ bl : List C3, bl = [(.bool false, .string ⟨#[]⟩, .int .i64 0)] := ⟨_, rfl⟩
  have hbn : bl.length = 1 := by rw [hbl]; rfl
  have T0 := BR.start1 w (.bool false) (.string ⟨#[]⟩) (.int .i64 0) false (.string ⟨#[]⟩) (.string ⟨#[]⟩) 26 24
  rw [← hbl] at T0
  have HBL := Lib.hid hbl
  clear hbl
  go_enter Tryz.func14, Tryz.ntmps14
  go_wp2_with fail
  refine (K1.out _).mono ?_
  rintro ee w1 ⟨rfl, hb⟩
  replace T0 := T0.step hb
  clear hb
  obtain ⟨p0, p1, p2, p3, p4, p5, p6⟩ := T0.boxZ (.bool false, .string ⟨#[]⟩, .int .i64 0) (by rw [HBL.out]; rfl)
  go_wp2_with fail
  refine (K2.out _).mono ?_
  rintro ee w2 ⟨rfl, hb⟩
  replace T0 := T0.step hb
  clear hb
  clear p0 p1 p2 p3 p4 p5 p6
  obtain ⟨p0, p1, p2, p3, p4, p5, p6⟩ := T0.boxZ (.bool false, .string ⟨#[]⟩, .int .i64 0) (by rw [HBL.out]; rfl)
  go_wp2_with fail
  refine (K3.out _).mono ?_
  rintro ee w3 ⟨rfl, hb⟩
  replace T0 := T0.step hb
  clear hb
  clear p0 p1 p2 p3 p4 p5 p6
  obtain ⟨p0, p1, p2, p3, p4, p5, p6⟩ := T0.boxZ (.bool false, .string ⟨#[]⟩, .int .i64 0) (by rw [HBL.out]; rfl)
  obtain ⟨q0, q1, q2, q3, q4, q5, q6⟩ := T0.res (n := 1) hbn
  have hfin := below_put3 T0.1 (show w.heap.size ≤ w.heap.size + 1 by omega)
  go_wp2_with fail
  refine bodyPost_ret (v := .tuple #[.agg #[.bool false, .string ⟨#[]⟩, .string ⟨#[1]⟩], .int .i64 0]) (by simp [results, Tryz.results14, go_sem, q0, q1, q2, q3]) rfl ⟨rfl, hfin _ _ _⟩
set_option maxRecDepth 100000 in
set_option maxHeartbeats 200000 in
theorem rOf_zero  (w : World) : Calls Tryz.prog 15 #[.agg #[.bool false, .string ⟨#[]⟩, .int .i64 0]] w fun e' w' => e' = .returned (.tuple #[.agg #[.bool false, .string ⟨#[]⟩, .string ⟨#[1]⟩], .int .i64 0]) ∧ Below w.heap.size w w' := by
  have K1 := Lib.hid (fun w => rMay3_zero w)
  have d1 : (ByteArray.mk #[]).toList = [] := by rw [ba_toList]
  obtain ⟨bl, hbl⟩ : ∃ bl : List C3, bl = [(.bool false, .string ⟨#[]⟩, .int .i64 0)] := ⟨_, rfl⟩
  have hbn : bl.length = 1 := by rw [hbl]; rfl
  have T0 := BR.start1 w (.bool false) (.string ⟨#[]⟩) (.int .i64 0) false (.string ⟨#[]⟩) (.string ⟨#[]⟩) 26 24
  rw [← hbl] at T0
  have HBL := Lib.hid hbl
  clear hbl
  go_enter Tryz.func15, Tryz.ntmps15
  go_wp2_with fail
  refine (K1.out _).mono ?_
  rintro ee w1 ⟨rfl, hb⟩
  replace T0 := T0.step hb
  clear hb
  obtain ⟨p0, p1, p2, p3, p4, p5, p6⟩ := T0.boxZ (.bool false, .string ⟨#[]⟩, .int .i64 0) (by rw [HBL.out]; rfl)
  obtain ⟨q0, q1, q2, q3, q4, q5, q6⟩ := T0.res (n := 1) hbn
  have hfin := below_put3 T0.1 (show w.heap.size ≤ w.heap.size + 1 by omega)
  go_wp2_with fail
  refine bodyPost_ret (v := .tuple #[.agg #[.bool false, .string ⟨#[]⟩, .string ⟨#[1]⟩], .int .i64 0]) (by simp [results, Tryz.results15, go_sem, q0, q1, q2, q3]) rfl ⟨rfl, hfin _ _ _⟩
set_option maxRecDepth 100000 in
set_option maxHeartbeats 200000 in
theorem POf_p1 (g : Bool) (n k : Nat) (hf : fits n) (ho : n % 2 = 1) (hk : k ≤ 1048576) (h : fits (n * 2 ^ k)) (w : World) : Calls Tryz.prog 14 #[.agg #[.bool g, .string (natS n), .int .i64 ((k : Nat) : Int)]] w fun e' w' => e' = .returned (.tuple #[.agg #[.bool g, .string (natS (n * 2 ^ k)), .string ⟨#[1]⟩], .int .i64 0]) ∧ Below w.heap.size w w' := by
  have K1 := Lib.hid (fun w => DCheck_num g n k w hf ho (by omega) (by omega))
  have K2 := Lib.hid (fun w => Sh_ok n k w hf hk h)
  have K3 := Lib.hid (fun w => Sh_one0 w)
  obtain ⟨m1, m2, m3, m4⟩ := max_f k
  have hw1 : IntKind.i64.wrap (-(k : Int)) = -(k : Int) := IntWalk.i64_in _ ⟨by omega, by omega⟩
  have hw2 : IntKind.i64.wrap (k : Int) = (k : Int) := IntWalk.i64_in _ ⟨by omega, by omega⟩
  have d1 := natS_full (odd_ne ho)
  have d2 := natS_full2 (odd_ne ho)
  clear h ho hf hk
  generalize n * 2 ^ k = N at *
  obtain ⟨bl, hbl⟩ : ∃ bl : List C3, bl = [(.bool g, .string (natS n), .int .i64 ((k : Nat) : Int))] := ⟨_, rfl⟩
  have hbn : bl.length = 1 := by rw [hbl]; rfl
  have T0 := BR.start1 w (.bool g) (.string (natS n)) (.int .i64 ((k : Nat) : Int)) false (.string ⟨#[]⟩) (.string ⟨#[]⟩) 26 24
  rw [← hbl] at T0
  have HBL := Lib.hid hbl
  clear hbl
  go_enter Tryz.func14, Tryz.ntmps14
  go_wp2_with fail
  refine (K1.out _).mono ?_
  rintro ee w1 ⟨rfl, hb⟩
  replace T0 := T0.step hb
  clear hb
  obtain ⟨p0, p1, p2, p3, p4, p5, p6⟩ := T0.boxZ (.bool g, .string (natS n), .int .i64 ((k : Nat) : Int)) (by rw [HBL.out]; rfl)
  go_wp2_with fail
  refine (K2.out _).mono ?_
  rintro ee w2 ⟨rfl, hb⟩
  replace T0 := T0.step hb
  clear hb
  clear p0 p1 p2 p3 p4 p5 p6
  obtain ⟨p0, p1, p2, p3, p4, p5, p6⟩ := T0.boxZ (.bool g, .string (natS n), .int .i64 ((k : Nat) : Int)) (by rw [HBL.out]; rfl)
  go_wp2_with fail
  refine (K3.out _).mono ?_
  rintro ee w3 ⟨rfl, hb⟩
  replace T0 := T0.step hb
  clear hb
  clear p0 p1 p2 p3 p4 p5 p6
  obtain ⟨p0, p1, p2, p3, p4, p5, p6⟩ := T0.boxZ (.bool g, .string (natS n), .int .i64 ((k : Nat) : Int)) (by rw [HBL.out]; rfl)
  obtain ⟨q0, q1, q2, q3, q4, q5, q6⟩ := T0.res (n := 1) hbn
  have hfin := below_put3 T0.1 (show w.heap.size ≤ w.heap.size + 1 by omega)
  go_wp2_with fail
  refine bodyPost_ret (v := .tuple #[.agg #[.bool g, .string (natS N), .string ⟨#[1]⟩], .int .i64 0]) (by simp [results, Tryz.results14, go_sem, q0, q1, q2, q3]) rfl ⟨rfl, hfin _ _ _⟩
set_option maxRecDepth 100000 in
set_option maxHeartbeats 200000 in
theorem rOf_p1 (g : Bool) (n k : Nat) (hf : fits n) (ho : n % 2 = 1) (hk : k ≤ 1048576) (h : fits (n * 2 ^ k)) (w : World) : Calls Tryz.prog 15 #[.agg #[.bool g, .string (natS n), .int .i64 ((k : Nat) : Int)]] w fun e' w' => e' = .returned (.tuple #[.agg #[.bool g, .string (natS (n * 2 ^ k)), .string ⟨#[1]⟩], .int .i64 0]) ∧ Below w.heap.size w w' := by
  have K1 := Lib.hid (fun w => rMay3_num g n k w hf ho (by omega) (by omega))
  have K2 := Lib.hid (fun w => rSh_ok n k w hf h)
  have hk0 : decide ((0 : Int) ≤ (k : Int)) = true := decide_eq_true (by omega)
  have d1 := natS_full (odd_ne ho)
  have d2 := natS_full2 (odd_ne ho)
  clear h ho hf hk
  generalize n * 2 ^ k = N at *
  obtain ⟨bl, hbl⟩ : ∃ bl : List C3, bl = [(.bool g, .string (natS n), .int .i64 ((k : Nat) : Int))] := ⟨_, rfl⟩
  have hbn : bl.length = 1 := by rw [hbl]; rfl
  have T0 := BR.start1 w (.bool g) (.string (natS n)) (.int .i64 ((k : Nat) : Int)) false (.string ⟨#[]⟩) (.string ⟨#[]⟩) 26 24
  rw [← hbl] at T0
  have HBL := Lib.hid hbl
  clear hbl
  go_enter Tryz.func15, Tryz.ntmps15
  go_wp2_with fail
  refine (K1.out _).mono ?_
  rintro ee w1 ⟨rfl, hb⟩
  replace T0 := T0.step hb
  clear hb
  obtain ⟨p0, p1, p2, p3, p4, p5, p6⟩ := T0.boxZ (.bool g, .string (natS n), .int .i64 ((k : Nat) : Int)) (by rw [HBL.out]; rfl)
  go_wp2_with fail
  refine (K2.out _).mono ?_
  rintro ee w2 ⟨rfl, hb⟩
  replace T0 := T0.step hb
  clear hb
  clear p0 p1 p2 p3 p4 p5 p6
  obtain ⟨p0, p1, p2, p3, p4, p5, p6⟩ := T0.boxZ (.bool g, .string (natS n), .int .i64 ((k : Nat) : Int)) (by rw [HBL.out]; rfl)
  obtain ⟨q0, q1, q2, q3, q4, q5, q6⟩ := T0.res (n := 1) hbn
  have hfin := below_put3 T0.1 (show w.heap.size ≤ w.heap.size + 1 by omega)
  go_wp2_with fail
  refine bodyPost_ret (v := .tuple #[.agg #[.bool g, .string (natS N), .string ⟨#[1]⟩], .int .i64 0]) (by simp [results, Tryz.results15, go_sem, q0, q1, q2, q3]) rfl ⟨rfl, hfin _ _ _⟩
set_option maxRecDepth 100000 in
set_option maxHeartbeats 200000 in
theorem POf_p0 (g : Bool) (n k : Nat) (hf : fits n) (ho : n % 2 = 1) (hk : k ≤ 1048576) (h : ¬ fits (n * 2 ^ k)) (w : World) : Calls Tryz.prog 14 #[.agg #[.bool g, .string (natS n), .int .i64 ((k : Nat) : Int)]] w fun e' w' => e' = .returned (.tuple #[.agg #[.bool false, .string ⟨#[]⟩, .string ⟨#[]⟩], .int .i64 4]) ∧ Below w.heap.size w w' := by
  have K1 := Lib.hid (fun w => DCheck_num g n k w hf ho (by omega) (by omega))
  have K2 := Lib.hid (fun w => Sh_no n k w hf hk h)
  have K3 := Lib.hid (fun w => Sh_one0 w)
  obtain ⟨m1, m2, m3, m4⟩ := max_f k
  have hw1 : IntKind.i64.wrap (-(k : Int)) = -(k : Int) := IntWalk.i64_in _ ⟨by omega, by omega⟩
  have hw2 : IntKind.i64.wrap (k : Int) = (k : Int) := IntWalk.i64_in _ ⟨by omega, by omega⟩
  have d1 := natS_full (odd_ne ho)
  have d2 := natS_full2 (odd_ne ho)
  clear h ho hf hk
  generalize n * 2 ^ k = N at *
  obtain ⟨bl, hbl⟩ : ∃ bl : List C3, bl = [(.bool g, .string (natS n), .int .i64 ((k : Nat) : Int))] := ⟨_, rfl⟩
  have hbn : bl.length = 1 := by rw [hbl]; rfl
  have T0 := BR.start1 w (.bool g) (.string (natS n)) (.int .i64 ((k : Nat) : Int)) false (.string ⟨#[]⟩) (.string ⟨#[]⟩) 26 24
  rw [← hbl] at T0
  have HBL := Lib.hid hbl
  clear hbl
  go_enter Tryz.func14, Tryz.ntmps14
  go_wp2_with fail
  refine (K1.out _).mono ?_
  rintro ee w1 ⟨rfl, hb⟩
  replace T0 := T0.step hb
  clear hb
  obtain ⟨p0, p1, p2, p3, p4, p5, p6⟩ := T0.boxZ (.bool g, .string (natS n), .int .i64 ((k : Nat) : Int)) (by rw [HBL.out]; rfl)
  go_wp2_with fail
  refine (K2.out _).mono ?_
  rintro ee w2 ⟨rfl, hb⟩
  replace T0 := T0.step hb
  clear hb
  clear p0 p1 p2 p3 p4 p5 p6
  obtain ⟨p0, p1, p2, p3, p4, p5, p6⟩ := T0.boxZ (.bool g, .string (natS n), .int .i64 ((k : Nat) : Int)) (by rw [HBL.out]; rfl)
  go_wp2_with fail
  refine (K3.out _).mono ?_
  rintro ee w3 ⟨rfl, hb⟩
  replace T0 := T0.step hb
  clear hb
  clear p0 p1 p2 p3 p4 p5 p6
  obtain ⟨p0, p1, p2, p3, p4, p5, p6⟩ := T0.boxZ (.bool g, .string (natS n), .int .i64 ((k : Nat) : Int)) (by rw [HBL.out]; rfl)
  obtain ⟨q0, q1, q2, q3, q4, q5, q6⟩ := T0.res (n := 1) hbn
  have hfin := below_put3 T0.1 (show w.heap.size ≤ w.heap.size + 1 by omega)
  go_wp2_with fail
  refine bodyPost_ret (v := .tuple #[.agg #[.bool false, .string ⟨#[]⟩, .string ⟨#[]⟩], .int .i64 4]) (by simp [results, Tryz.results14, go_sem, q0, q1, q2, q3]) rfl ⟨rfl, hfin _ _ _⟩
set_option maxRecDepth 100000 in
set_option maxHeartbeats 200000 in
theorem rOf_p0 (g : Bool) (n k : Nat) (hf : fits n) (ho : n % 2 = 1) (hk : k ≤ 1048576) (h : ¬ fits (n * 2 ^ k)) (w : World) : Calls Tryz.prog 15 #[.agg #[.bool g, .string (natS n), .int .i64 ((k : Nat) : Int)]] w fun e' w' => e' = .returned (.tuple #[.agg #[.bool false, .string ⟨#[]⟩, .string ⟨#[]⟩], .int .i64 4]) ∧ Below w.heap.size w w' := by
  have K1 := Lib.hid (fun w => rMay3_num g n k w hf ho (by omega) (by omega))
  have K2 := Lib.hid (fun w => rSh_no n k w hf h)
  have hk0 : decide ((0 : Int) ≤ (k : Int)) = true := decide_eq_true (by omega)
  have d1 := natS_full (odd_ne ho)
  have d2 := natS_full2 (odd_ne ho)
  clear h ho hf hk
  generalize n * 2 ^ k = N at *
  obtain ⟨bl, hbl⟩ : ∃ bl : List C3, bl = [(.bool g, .string (natS n), .int .i64 ((k : Nat) : Int))] := ⟨_, rfl⟩
  have hbn : bl.length = 1 := by rw [hbl]; rfl
  have T0 := BR.start1 w (.bool g) (.string (natS n)) (.int .i64 ((k : Nat) : Int)) false (.string ⟨#[]⟩) (.string ⟨#[]⟩) 26 24
  rw [← hbl] at T0
  have HBL := Lib.hid hbl
  clear hbl
  go_enter Tryz.func15, Tryz.ntmps15
  go_wp2_with fail
  refine (K1.out _).mono ?_
  rintro ee w1 ⟨rfl, hb⟩
  replace T0 := T0.step hb
  clear hb
  obtain ⟨p0, p1, p2, p3, p4, p5, p6⟩ := T0.boxZ (.bool g, .string (natS n), .int .i64 ((k : Nat) : Int)) (by rw [HBL.out]; rfl)
  go_wp2_with fail
  refine (K2.out _).mono ?_
  rintro ee w2 ⟨rfl, hb⟩
  replace T0 := T0.step hb
  clear hb
  clear p0 p1 p2 p3 p4 p5 p6
  obtain ⟨p0, p1, p2, p3, p4, p5, p6⟩ := T0.boxZ (.bool g, .string (natS n), .int .i64 ((k : Nat) : Int)) (by rw [HBL.out]; rfl)
  obtain ⟨q0, q1, q2, q3, q4, q5, q6⟩ := T0.res (n := 1) hbn
  have hfin := below_put3 T0.1 (show w.heap.size ≤ w.heap.size + 1 by omega)
  go_wp2_with fail
  refine bodyPost_ret (v := .tuple #[.agg #[.bool false, .string ⟨#[]⟩, .string ⟨#[]⟩], .int .i64 4]) (by simp [results, Tryz.results15, go_sem, q0, q1, q2, q3]) rfl ⟨rfl, hfin _ _ _⟩
set_option maxRecDepth 100000 in
set_option maxHeartbeats 200000 in
theorem POf_n1 (g : Bool) (n k : Nat) (hf : fits n) (ho : n % 2 = 1) (hk : k ≤ 1048576) (hk0 : 0 < k) (h : fits (1 * 2 ^ k)) (w : World) : Calls Tryz.prog 14 #[.agg #[.bool g, .string (natS n), .int .i64 (-((k : Nat) : Int))]] w fun e' w' => e' = .returned (.tuple #[.agg #[.bool g, .string (natS n), .string (natS (1 * 2 ^ k))], .int .i64 0]) ∧ Below w.heap.size w w' := by
  have K1 := Lib.hid (fun w => DCheck_num g n (-(k : Int)) w hf ho (by omega) (by omega))
  have K2 := Lib.hid (fun w => NShift_stay n w hf (odd_ne ho))
  have K3 := Lib.hid (fun w => (by have h := Sh_ok 1 k w fits_1r hk h; rw [natS_1r] at h; exact h))
  obtain ⟨m1, m2, m3, m4⟩ := max_f k
  have hw1 : IntKind.i64.wrap (-(k : Int)) = -(k : Int) := IntWalk.i64_in _ ⟨by omega, by omega⟩
  have hw2 : IntKind.i64.wrap (k : Int) = (k : Int) := IntWalk.i64_in _ ⟨by omega, by omega⟩
  have d1 := natS_full (odd_ne ho)
  have d2 := natS_full2 (odd_ne ho)
  clear h ho hf hk hk0
  generalize 1 * 2 ^ k = N at *
  obtain ⟨bl, hbl⟩ : ∃ bl : List C3, bl = [(.bool g, .string (natS n), .int .i64 (-((k : Nat) : Int)))] := ⟨_, rfl⟩
  have hbn : bl.length = 1 := by rw [hbl]; rfl
  have T0 := BR.start1 w (.bool g) (.string (natS n)) (.int .i64 (-((k : Nat) : Int))) false (.string ⟨#[]⟩) (.string ⟨#[]⟩) 26 24
  rw [← hbl] at T0
  have HBL := Lib.hid hbl
  clear hbl
  go_enter Tryz.func14, Tryz.ntmps14
  go_wp2_with fail
  refine (K1.out _).mono ?_
  rintro ee w1 ⟨rfl, hb⟩
  replace T0 := T0.step hb
  clear hb
  obtain ⟨p0, p1, p2, p3, p4, p5, p6⟩ := T0.boxZ (.bool g, .string (natS n), .int .i64 (-((k : Nat) : Int))) (by rw [HBL.out]; rfl)
  go_wp2_with fail
  refine (K2.out _).mono ?_
  rintro ee w2 ⟨rfl, hb⟩
  replace T0 := T0.step hb
  clear hb
  clear p0 p1 p2 p3 p4 p5 p6
  obtain ⟨p0, p1, p2, p3, p4, p5, p6⟩ := T0.boxZ (.bool g, .string (natS n), .int .i64 (-((k : Nat) : Int))) (by rw [HBL.out]; rfl)
  go_wp2_with fail
  refine (K3.out _).mono ?_
  rintro ee w3 ⟨rfl, hb⟩
  replace T0 := T0.step hb
  clear hb
  clear p0 p1 p2 p3 p4 p5 p6
  obtain ⟨p0, p1, p2, p3, p4, p5, p6⟩ := T0.boxZ (.bool g, .string (natS n), .int .i64 (-((k : Nat) : Int))) (by rw [HBL.out]; rfl)
  obtain ⟨q0, q1, q2, q3, q4, q5, q6⟩ := T0.res (n := 1) hbn
  have hfin := below_put3 T0.1 (show w.heap.size ≤ w.heap.size + 1 by omega)
  go_wp2_with fail
  refine bodyPost_ret (v := .tuple #[.agg #[.bool g, .string (natS n), .string (natS N)], .int .i64 0]) (by simp [results, Tryz.results14, go_sem, q0, q1, q2, q3]) rfl ⟨rfl, hfin _ _ _⟩
set_option maxRecDepth 100000 in
set_option maxHeartbeats 200000 in
theorem rOf_n1 (g : Bool) (n k : Nat) (hf : fits n) (ho : n % 2 = 1) (hk : k ≤ 1048576) (hk0 : 0 < k) (h : fits (1 * 2 ^ k)) (w : World) : Calls Tryz.prog 15 #[.agg #[.bool g, .string (natS n), .int .i64 (-((k : Nat) : Int))]] w fun e' w' => e' = .returned (.tuple #[.agg #[.bool g, .string (natS n), .string (natS (1 * 2 ^ k))], .int .i64 0]) ∧ Below w.heap.size w w' := by
  have K1 := Lib.hid (fun w => rMay3_num g n (-(k : Int)) w hf ho (by omega) (by omega))
  have K2 := Lib.hid (fun w => (by have h := rSh_ok 1 k w fits_1r h; rw [natS_1r] at h; exact h))
  have hw2 : IntKind.i64.wrap (k : Int) = (k : Int) := IntWalk.i64_in _ ⟨by omega, by omega⟩
  have d1 := natS_full (odd_ne ho)
  have d2 := natS_full2 (odd_ne ho)
  have e2 : decide ((0 : Int) ≤ -(k : Int)) = false := decide_eq_false (by omega)
  have k0 : ¬ k = 0 := by omega
  have e3 : ¬ (k : Int) ≤ 0 := by omega
  have e4 : decide ((k : Int) ≤ 0) = false := decide_eq_false e3
  have e5 : decide (k = 0) = false := decide_eq_false k0
  clear h ho hf hk hk0
  generalize 1 * 2 ^ k = N at *
  obtain ⟨bl, hbl⟩ : ∃ bl : List C3, bl = [(.bool g, .string (natS n), .int .i64 (-((k : Nat) : Int)))] := ⟨_, rfl⟩
  have hbn : bl.length = 1 := by rw [hbl]; rfl
  have T0 := BR.start1 w (.bool g) (.string (natS n)) (.int .i64 (-((k : Nat) : Int))) false (.string ⟨#[]⟩) (.string ⟨#[]⟩) 26 24
  rw [← hbl] at T0
  have HBL := Lib.hid hbl
  clear hbl
  go_enter Tryz.func15, Tryz.ntmps15
  go_wp2_with fail
  refine (K1.out _).mono ?_
  rintro ee w1 ⟨rfl, hb⟩
  replace T0 := T0.step hb
  clear hb
  obtain ⟨p0, p1, p2, p3, p4, p5, p6⟩ := T0.boxZ (.bool g, .string (natS n), .int .i64 (-((k : Nat) : Int))) (by rw [HBL.out]; rfl)
  go_wp2_with fail
  refine (K2.out _).mono ?_
  rintro ee w2 ⟨rfl, hb⟩
  replace T0 := T0.step hb
  clear hb
  clear p0 p1 p2 p3 p4 p5 p6
  obtain ⟨p0, p1, p2, p3, p4, p5, p6⟩ := T0.boxZ (.bool g, .string (natS n), .int .i64 (-((k : Nat) : Int))) (by rw [HBL.out]; rfl)
  obtain ⟨q0, q1, q2, q3, q4, q5, q6⟩ := T0.res (n := 1) hbn
  have hfin := below_put3 T0.1 (show w.heap.size ≤ w.heap.size + 1 by omega)
  go_wp2_with fail
  refine bodyPost_ret (v := .tuple #[.agg #[.bool g, .string (natS n), .string (natS N)], .int .i64 0]) (by simp [results, Tryz.results15, go_sem, q0, q1, q2, q3]) rfl ⟨rfl, hfin _ _ _⟩
set_option maxRecDepth 100000 in
set_option maxHeartbeats 200000 in
theorem POf_n0 (g : Bool) (n k : Nat) (hf : fits n) (ho : n % 2 = 1) (hk : k ≤ 1048576) (hk0 : 0 < k) (h : ¬ fits (1 * 2 ^ k)) (w : World) : Calls Tryz.prog 14 #[.agg #[.bool g, .string (natS n), .int .i64 (-((k : Nat) : Int))]] w fun e' w' => e' = .returned (.tuple #[.agg #[.bool false, .string ⟨#[]⟩, .string ⟨#[]⟩], .int .i64 4]) ∧ Below w.heap.size w w' := by
  have K1 := Lib.hid (fun w => DCheck_num g n (-(k : Int)) w hf ho (by omega) (by omega))
  have K2 := Lib.hid (fun w => NShift_stay n w hf (odd_ne ho))
  have K3 := Lib.hid (fun w => (by have h := Sh_no 1 k w fits_1r hk h; rw [natS_1r] at h; exact h))
  obtain ⟨m1, m2, m3, m4⟩ := max_f k
  have hw1 : IntKind.i64.wrap (-(k : Int)) = -(k : Int) := IntWalk.i64_in _ ⟨by omega, by omega⟩
  have hw2 : IntKind.i64.wrap (k : Int) = (k : Int) := IntWalk.i64_in _ ⟨by omega, by omega⟩
  have d1 := natS_full (odd_ne ho)
  have d2 := natS_full2 (odd_ne ho)
  clear h ho hf hk hk0
  generalize 1 * 2 ^ k = N at *
  obtain ⟨bl, hbl⟩ : ∃ bl : List C3, bl = [(.bool g, .string (natS n), .int .i64 (-((k : Nat) : Int)))] := ⟨_, rfl⟩
  have hbn : bl.length = 1 := by rw [hbl]; rfl
  have T0 := BR.start1 w (.bool g) (.string (natS n)) (.int .i64 (-((k : Nat) : Int))) false (.string ⟨#[]⟩) (.string ⟨#[]⟩) 26 24
  rw [← hbl] at T0
  have HBL := Lib.hid hbl
  clear hbl
  go_enter Tryz.func14, Tryz.ntmps14
  go_wp2_with fail
  refine (K1.out _).mono ?_
  rintro ee w1 ⟨rfl, hb⟩
  replace T0 := T0.step hb
  clear hb
  obtain ⟨p0, p1, p2, p3, p4, p5, p6⟩ := T0.boxZ (.bool g, .string (natS n), .int .i64 (-((k : Nat) : Int))) (by rw [HBL.out]; rfl)
  go_wp2_with fail
  refine (K2.out _).mono ?_
  rintro ee w2 ⟨rfl, hb⟩
  replace T0 := T0.step hb
  clear hb
  clear p0 p1 p2 p3 p4 p5 p6
  obtain ⟨p0, p1, p2, p3, p4, p5, p6⟩ := T0.boxZ (.bool g, .string (natS n), .int .i64 (-((k : Nat) : Int))) (by rw [HBL.out]; rfl)
  go_wp2_with fail
  refine (K3.out _).mono ?_
  rintro ee w3 ⟨rfl, hb⟩
  replace T0 := T0.step hb
  clear hb
  clear p0 p1 p2 p3 p4 p5 p6
  obtain ⟨p0, p1, p2, p3, p4, p5, p6⟩ := T0.boxZ (.bool g, .string (natS n), .int .i64 (-((k : Nat) : Int))) (by rw [HBL.out]; rfl)
  obtain ⟨q0, q1, q2, q3, q4, q5, q6⟩ := T0.res (n := 1) hbn
  have hfin := below_put3 T0.1 (show w.heap.size ≤ w.heap.size + 1 by omega)
  go_wp2_with fail
  refine bodyPost_ret (v := .tuple #[.agg #[.bool false, .string ⟨#[]⟩, .string ⟨#[]⟩], .int .i64 4]) (by simp [results, Tryz.results14, go_sem, q0, q1, q2, q3]) rfl ⟨rfl, hfin _ _ _⟩
set_option maxRecDepth 100000 in
set_option maxHeartbeats 200000 in
theorem rOf_n0 (g : Bool) (n k : Nat) (hf : fits n) (ho : n % 2 = 1) (hk : k ≤ 1048576) (hk0 : 0 < k) (h : ¬ fits (1 * 2 ^ k)) (w : World) : Calls Tryz.prog 15 #[.agg #[.bool g, .string (natS n), .int .i64 (-((k : Nat) : Int))]] w fun e' w' => e' = .returned (.tuple #[.agg #[.bool false, .string ⟨#[]⟩, .string ⟨#[]⟩], .int .i64 4]) ∧ Below w.heap.size w w' := by
  have K1 := Lib.hid (fun w => rMay3_num g n (-(k : Int)) w hf ho (by omega) (by omega))
  have K2 := Lib.hid (fun w => (by have h := rSh_no 1 k w fits_1r h; rw [natS_1r] at h; exact h))
  have hw2 : IntKind.i64.wrap (k : Int) = (k : Int) := IntWalk.i64_in _ ⟨by omega, by omega⟩
  have d1 := natS_full (odd_ne ho)
  have d2 := natS_full2 (odd_ne ho)
  have e2 : decide ((0 : Int) ≤ -(k : Int)) = false := decide_eq_false (by omega)
  have k0 : ¬ k = 0 := by omega
  have e3 : ¬ (k : Int) ≤ 0 := by omega
  have e4 : decide ((k : Int) ≤ 0) = false := decide_eq_false e3
  have e5 : decide (k = 0) = false := decide_eq_false k0
  clear h ho hf hk hk0
  generalize 1 * 2 ^ k = N at *
  obtain ⟨bl, hbl⟩ : ∃ bl : List C3, bl = [(.bool g, .string (natS n), .int .i64 (-((k : Nat) : Int)))] := ⟨_, rfl⟩
  have hbn : bl.length = 1 := by rw [hbl]; rfl
  have T0 := BR.start1 w (.bool g) (.string (natS n)) (.int .i64 (-((k : Nat) : Int))) false (.string ⟨#[]⟩) (.string ⟨#[]⟩) 26 24
  rw [← hbl] at T0
  have HBL := Lib.hid hbl
  clear hbl
  go_enter Tryz.func15, Tryz.ntmps15
  go_wp2_with fail
  refine (K1.out _).mono ?_
  rintro ee w1 ⟨rfl, hb⟩
  replace T0 := T0.step hb
  clear hb
  obtain ⟨p0, p1, p2, p3, p4, p5, p6⟩ := T0.boxZ (.bool g, .string (natS n), .int .i64 (-((k : Nat) : Int))) (by rw [HBL.out]; rfl)
  go_wp2_with fail
  refine (K2.out _).mono ?_
  rintro ee w2 ⟨rfl, hb⟩
  replace T0 := T0.step hb
  clear hb
  clear p0 p1 p2 p3 p4 p5 p6
  obtain ⟨p0, p1, p2, p3, p4, p5, p6⟩ := T0.boxZ (.bool g, .string (natS n), .int .i64 (-((k : Nat) : Int))) (by rw [HBL.out]; rfl)
  obtain ⟨q0, q1, q2, q3, q4, q5, q6⟩ := T0.res (n := 1) hbn
  have hfin := below_put3 T0.1 (show w.heap.size ≤ w.heap.size + 1 by omega)
  go_wp2_with fail
  refine bodyPost_ret (v := .tuple #[.agg #[.bool false, .string ⟨#[]⟩, .string ⟨#[]⟩], .int .i64 4]) (by simp [results, Tryz.results15, go_sem, q0, q1, q2, q3]) rfl ⟨rfl, hfin _ _ _⟩
end Go.Proofs.YtajcapliokblfaaGreatDoor
set_option linter.unusedSimpArgs false
set_option linter.unusedVariables false
namespace Go.Proofs.YtajcapliokblfaaGreatDoor
open Go Go.RowKit Nt

theorem rLowB (n l : Nat) (w : World) (hf : fits n) (hl : IsLow n l) : Calls Tryz.prog 70 #[.string (natS n)] w fun e w' => e = .returned (.int .i64 (l : Nat)) ∧ Below w.heap.size w w' := (rLow_c n l w hf hl).mono fun e w' h => ⟨h.1, by rw [← h.2]; exact Below.refl _ _⟩
theorem bne_of {E : Int} {b : Bool} (h : (E == 0) = b) : (E != 0) = !b := by rw [← h]; rfl
theorem low_bound {d : Nat} (h : d ≠ 0) (hf : fits d) : lowN d < nd 2 d ∧ nd 2 d ≤ 131072 := ⟨low_lt h (lowN_is d), bits_131072' hf⟩
theorem pow_two (d : Nat) (h : d ≠ 0) : (lowN d : Int) = (nd 2 d : Int) - 1 ↔ odN d = 1 := by
  obtain ⟨h1, h2⟩ := odN_spec h
  have h3 : nd 2 d = nd 2 (odN d) + lowN d := by
    have := nd_mul_pow (a := odN d) (j := lowN d) (odN_pos h)
    rwa [← h2] at this
  constructor
  · intro e
    have e2 : nd 2 (odN d) = 1 := by omega
    have h4 := lt_nd (b := 2) (n := odN d) (by omega)
    rw [e2] at h4
    have := odN_pos h
    omega
  · intro e
    rw [e, nd_unique (b := 2) (n := 1) (k := 0) (by omega) (by decide) (by decide)] at h3
    omega
set_option maxRecDepth 100000 in
set_option maxHeartbeats 300000 in
theorem PDyad_no (r : Rx) (h : r.No) (w : World) : Calls Tryz.prog 16 #[.agg #[.bool r.g, .string r.s, .string r.t]] w fun e' w' => e' = .returned (.tuple #[.agg #[.bool false, .string ⟨#[]⟩, .int .i64 0], .bool false]) ∧ Below w.heap.size w w' := by
  have K1 := Lib.hid (fun w => PMay_no r w h)
  clear h
  obtain ⟨bl, hbl⟩ : ∃ bl : List C3, bl = [(.bool r.g, .string r.s, .string r.t)] := ⟨_, rfl⟩
  have hbn : bl.length = 1 := by rw [hbl]; rfl
  have T0 := BR.start1 w (.bool r.g) (.string r.s) (.string r.t) false (.string ⟨#[]⟩) (.int .i64 0) 24 26
  rw [← hbl] at T0
  have HBL := Lib.hid hbl
  clear hbl
  go_enter Tryz.func16, Tryz.ntmps16
  go_wp2_with fail
  refine (K1.out _).mono ?_
  rintro ee w1 ⟨rfl, hb⟩
  replace T0 := T0.step hb
  clear hb
  obtain ⟨p0, p1, p2, p3, p4, p5, p6⟩ := T0.boxZ (.bool r.g, .string r.s, .string r.t) (by rw [HBL.out]; rfl)
  obtain ⟨q0, q1, q2, q3, q4, q5, q6⟩ := T0.res (n := 1) hbn
  have hfin := below_put3 T0.1 (show w.heap.size ≤ w.heap.size + 1 by omega)
  go_wp2_with fail
  refine bodyPost_ret (v := .tuple #[.agg #[.bool false, .string ⟨#[]⟩, .int .i64 0], .bool false]) (by simp [results, Tryz.results16, go_sem, q0, q1, q2, q3]) rfl ⟨rfl, (by first | exact hfin _ _ _ | exact (hfin _ _ _).alloc (by simp; omega) _)⟩
set_option maxRecDepth 100000 in
set_option maxHeartbeats 300000 in
theorem rDyad_no (r : Rx) (h : r.No) (hz : r.s.size ≤ 5000 ∧ r.t.size ≤ 5000) (w : World) : Calls Tryz.prog 17 #[.agg #[.bool r.g, .string r.s, .string r.t]] w fun e' w' => e' = .returned (.tuple #[.agg #[.bool false, .string ⟨#[]⟩, .int .i64 0], .bool false]) ∧ Below w.heap.size w w' := by
  have K1 := Lib.hid (fun w => rMay4_no r w h hz)
  clear h hz
  obtain ⟨bl, hbl⟩ : ∃ bl : List C3, bl = [(.bool r.g, .string r.s, .string r.t)] := ⟨_, rfl⟩
  have hbn : bl.length = 1 := by rw [hbl]; rfl
  have T0 := BR.start1 w (.bool r.g) (.string r.s) (.string r.t) false (.string ⟨#[]⟩) (.int .i64 0) 24 26
  rw [← hbl] at T0
  have HBL := Lib.hid hbl
  clear hbl
  go_enter Tryz.func17, Tryz.ntmps17
  go_wp2_with fail
  refine (K1.out _).mono ?_
  rintro ee w1 ⟨rfl, hb⟩
  replace T0 := T0.step hb
  clear hb
  obtain ⟨p0, p1, p2, p3, p4, p5, p6⟩ := T0.boxZ (.bool r.g, .string r.s, .string r.t) (by rw [HBL.out]; rfl)
  obtain ⟨q0, q1, q2, q3, q4, q5, q6⟩ := T0.res (n := 1) hbn
  have hfin := below_put3 T0.1 (show w.heap.size ≤ w.heap.size + 1 by omega)
  go_wp2_with fail
  refine bodyPost_ret (v := .tuple #[.agg #[.bool false, .string ⟨#[]⟩, .int .i64 0], .bool false]) (by simp [results, Tryz.results17, go_sem, q0, q1, q2, q3]) rfl ⟨rfl, (by first | exact hfin _ _ _ | exact (hfin _ _ _).alloc (by simp; omega) _)⟩
set_option maxRecDepth 100000 in
set_option maxHeartbeats 300000 in
theorem PDyad_not (x : Rat) (h : qfits x) (hz : nd 256 (qN x) ≤ 5000 ∧ nd 256 (qD x) ≤ 5000) (hp : odN (qD x) ≠ 1) (w : World) : Calls Tryz.prog 16 #[.agg #[.bool (qG x), .string (natS (qN x)), .string (natS (qD x))]] w fun e' w' => e' = .returned (.tuple #[.agg #[.bool false, .string ⟨#[]⟩, .int .i64 0], .bool false]) ∧ Below w.heap.size w w' := by
  have K1 := Lib.hid (fun w => PMay_yes x w h)
  have K2 := Lib.hid (fun w => NLen_c (qD x) w h.2)
  have K3 := Lib.hid (fun w => NLow_c (qD x) (lowN (qD x)) w h.2 (lowN_is _))
  have d1 := qD_pos x
  have hl := low_bound d1 h.2
  have e0 := pow_two (qD x) d1
  have e1 : ¬ (lowN (qD x) : Int) = (nd 2 (qD x) : Int) - 1 := fun c => hp (e0.1 c)
  have e3 : (((lowN (qD x) : Nat) : Int) != (nd 2 (qD x) : Int) - 1) = true := bne_iff_ne.2 e1
  have hw3 : IntKind.i64.wrap ((nd 2 (qD x) : Int) - 1) = (nd 2 (qD x) : Int) - 1 := IntWalk.i64_in _ ⟨by omega, by omega⟩
  clear h hz hp hl e0 d1
  unfold qv at *
  generalize lowN (qD x) = l at *
  generalize nd 2 (qD x) = ln at *
  generalize qG x = g at *
  generalize qN x = n at *
  obtain ⟨bl, hbl⟩ : ∃ bl : List C3, bl = [(.bool g, .string (natS n), .string (natS (qD x)))] := ⟨_, rfl⟩
  have hbn : bl.length = 1 := by rw [hbl]; rfl
  have T0 := BR.start1 w (.bool g) (.string (natS n)) (.string (natS (qD x))) false (.string ⟨#[]⟩) (.int .i64 0) 24 26
  rw [← hbl] at T0
  have HBL := Lib.hid hbl
  clear hbl
  go_enter Tryz.func16, Tryz.ntmps16
  go_wp2_with fail
  refine (K1.out _).mono ?_
  rintro ee w1 ⟨rfl, hb⟩
  replace T0 := T0.step hb
  clear hb
  obtain ⟨p0, p1, p2, p3, p4, p5, p6⟩ := T0.boxZ (.bool g, .string (natS n), .string (natS (qD x))) (by rw [HBL.out]; rfl)
  go_wp2_with fail
  refine (K2.out _).mono ?_
  rintro ee w2 ⟨rfl, hb⟩
  replace T0 := T0.step hb
  clear hb
  clear p0 p1 p2 p3 p4 p5 p6
  obtain ⟨p0, p1, p2, p3, p4, p5, p6⟩ := T0.boxZ (.bool g, .string (natS n), .string (natS (qD x))) (by rw [HBL.out]; rfl)
  go_wp2_with fail
  refine (K3.out _).mono ?_
  rintro ee w3 ⟨rfl, hb⟩
  replace T0 := T0.step hb
  clear hb
  clear p0 p1 p2 p3 p4 p5 p6
  obtain ⟨p0, p1, p2, p3, p4, p5, p6⟩ := T0.boxZ (.bool g, .string (natS n), .string (natS (qD x))) (by rw [HBL.out]; rfl)
  obtain ⟨q0, q1, q2, q3, q4, q5, q6⟩ := T0.res (n := 1) hbn
  have hfin := below_put3 T0.1 (show w.heap.size ≤ w.heap.size + 1 by omega)
  go_wp2_with fail
  refine bodyPost_ret (v := .tuple #[.agg #[.bool false, .string ⟨#[]⟩, .int .i64 0], .bool false]) (by simp [results, Tryz.results16, go_sem, q0, q1, q2, q3]) rfl ⟨rfl, (by first | exact hfin _ _ _ | exact (hfin _ _ _).alloc (by simp; omega) _)⟩
set_option maxRecDepth 100000 in
set_option maxHeartbeats 300000 in
theorem rDyad_not (x : Rat) (h : qfits x) (hz : nd 256 (qN x) ≤ 5000 ∧ nd 256 (qD x) ≤ 5000) (hp : odN (qD x) ≠ 1) (w : World) : Calls Tryz.prog 17 #[.agg #[.bool (qG x), .string (natS (qN x)), .string (natS (qD x))]] w fun e' w' => e' = .returned (.tuple #[.agg #[.bool false, .string ⟨#[]⟩, .int .i64 0], .bool false]) ∧ Below w.heap.size w w' := by
  have K1 := Lib.hid (fun w => rMay4_yes x w h hz)
  have K2 := Lib.hid (fun w => rLowB (qD x) (lowN (qD x)) w h.2 (lowN_is _))
  have d1 := qD_pos x
  have hl := low_bound d1 h.2
  have hw : IntKind.i64.wrap (-(lowN (qD x) : Int)) = -(lowN (qD x) : Int) := IntWalk.i64_in _ ⟨by omega, by omega⟩
  have K3 : Hid (∀ w, Calls Tryz.prog 66 #[.string (natS (qD x)), .int .i64 (-(lowN (qD x) : Int))] w (StrPost (natS (odN (qD x))) 0 w)) := Lib.hid (fun w => rShift_neg (qD x) (lowN (qD x)) w h.2)
  have f1 := one_no hp
  have f2 := one_nob hp
  clear h hz hp hl d1
  unfold qv at *
  generalize odN (qD x) = od at *
  generalize hll : lowN (qD x) = l at *
  clear hll
  generalize qG x = g at *
  generalize qN x = n at *
  obtain ⟨bl, hbl⟩ : ∃ bl : List C3, bl = [(.bool g, .string (natS n), .string (natS (qD x)))] := ⟨_, rfl⟩
  have hbn : bl.length = 1 := by rw [hbl]; rfl
  have T0 := BR.start1 w (.bool g) (.string (natS n)) (.string (natS (qD x))) false (.string ⟨#[]⟩) (.int .i64 0) 24 26
  rw [← hbl] at T0
  have HBL := Lib.hid hbl
  clear hbl
  go_enter Tryz.func17, Tryz.ntmps17
  go_wp2_with fail
  refine (K1.out _).mono ?_
  rintro ee w1 ⟨rfl, hb⟩
  replace T0 := T0.step hb
  clear hb
  obtain ⟨p0, p1, p2, p3, p4, p5, p6⟩ := T0.boxZ (.bool g, .string (natS n), .string (natS (qD x))) (by rw [HBL.out]; rfl)
  go_wp2_with fail
  refine (K2.out _).mono ?_
  rintro ee w2 ⟨rfl, hb⟩
  replace T0 := T0.step hb
  clear hb
  clear p0 p1 p2 p3 p4 p5 p6
  obtain ⟨p0, p1, p2, p3, p4, p5, p6⟩ := T0.boxZ (.bool g, .string (natS n), .string (natS (qD x))) (by rw [HBL.out]; rfl)
  go_wp2_with fail
  refine (K3.out _).mono ?_
  rintro ee w3 ⟨rfl, hb⟩
  replace T0 := T0.step hb
  clear hb
  clear p0 p1 p2 p3 p4 p5 p6
  obtain ⟨p0, p1, p2, p3, p4, p5, p6⟩ := T0.boxZ (.bool g, .string (natS n), .string (natS (qD x))) (by rw [HBL.out]; rfl)
  obtain ⟨q0, q1, q2, q3, q4, q5, q6⟩ := T0.res (n := 1) hbn
  have hfin := below_put3 T0.1 (show w.heap.size ≤ w.heap.size + 1 by omega)
  go_wp2_with fail
  refine bodyPost_ret (v := .tuple #[.agg #[.bool false, .string ⟨#[]⟩, .int .i64 0], .bool false]) (by simp [results, Tryz.results17, go_sem, q0, q1, q2, q3]) rfl ⟨rfl, (by first | exact hfin _ _ _ | exact (hfin _ _ _).alloc (by simp; omega) _)⟩
set_option maxRecDepth 100000 in
set_option maxHeartbeats 300000 in
theorem PDyad_ok (x : Rat) (h : qfits x) (hz : nd 256 (qN x) ≤ 5000 ∧ nd 256 (qD x) ≤ 5000) (hp : odN (qD x) = 1) (w : World) : Calls Tryz.prog 16 #[.agg #[.bool (qG x), .string (natS (qN x)), .string (natS (qD x))]] w fun e' w' => e' = .returned (.tuple #[(mkD (qG x) (qN x) (-(lowN (qD x) : Int))).v, .bool (mkE (qN x) (-(lowN (qD x) : Int)) == 0)]) ∧ Below w.heap.size w w' := by
  have K1 := Lib.hid (fun w => PMay_yes x w h)
  have K2 := Lib.hid (fun w => NLen_c (qD x) w h.2)
  have K3 := Lib.hid (fun w => NLow_c (qD x) (lowN (qD x)) w h.2 (lowN_is _))
  have d1 := qD_pos x
  have hl := low_bound d1 h.2
  have e0 := pow_two (qD x) d1
  have e1 : (lowN (qD x) : Int) = (nd 2 (qD x) : Int) - 1 := e0.2 hp
  have e3 : (((lowN (qD x) : Nat) : Int) != (nd 2 (qD x) : Int) - 1) = false := by rw [e1]; exact bne_self_eq_false _
  have hw : IntKind.i64.wrap (-(lowN (qD x) : Int)) = -(lowN (qD x) : Int) := IntWalk.i64_in _ ⟨by omega, by omega⟩
  have hw3 : IntKind.i64.wrap ((nd 2 (qD x) : Int) - 1) = (nd 2 (qD x) : Int) - 1 := IntWalk.i64_in _ ⟨by omega, by omega⟩
  have K4 := Lib.hid (fun w => DMake_c (qG x) (qN x) (-(lowN (qD x) : Int)) w h.1 ⟨by omega, by omega⟩)
  obtain ⟨b, hb0⟩ : ∃ b, (mkE (qN x) (-(lowN (qD x) : Int)) == 0) = b := ⟨_, rfl⟩
  unfold MkPost at K4
  rw [hb0]
  clear h hz hp hl e0 e1 d1
  unfold qv at *
  generalize mkD (qG x) (qN x) (-(lowN (qD x) : Int)) = M at *
  generalize mkE (qN x) (-(lowN (qD x) : Int)) = E at *
  generalize hll : lowN (qD x) = l at *
  generalize nd 2 (qD x) = ln at *
  unfold Dy.v at *
  clear hll
  generalize qG x = g at *
  generalize qN x = n at *
  have hbn0 := bne_of hb0
  have HB := Lib.hid hb0
  obtain ⟨bl, hbl⟩ : ∃ bl : List C3, bl = [(.bool g, .string (natS n), .string (natS (qD x)))] := ⟨_, rfl⟩
  have hbn : bl.length = 1 := by rw [hbl]; rfl
  have T0 := BR.start1 w (.bool g) (.string (natS n)) (.string (natS (qD x))) false (.string ⟨#[]⟩) (.int .i64 0) 24 26
  rw [← hbl] at T0
  have HBL := Lib.hid hbl
  clear hbl
  go_enter Tryz.func16, Tryz.ntmps16
  go_wp2_with fail
  refine (K1.out _).mono ?_
  rintro ee w1 ⟨rfl, hb⟩
  replace T0 := T0.step hb
  clear hb
  obtain ⟨p0, p1, p2, p3, p4, p5, p6⟩ := T0.boxZ (.bool g, .string (natS n), .string (natS (qD x))) (by rw [HBL.out]; rfl)
  go_wp2_with fail
  refine (K2.out _).mono ?_
  rintro ee w2 ⟨rfl, hb⟩
  replace T0 := T0.step hb
  clear hb
  clear p0 p1 p2 p3 p4 p5 p6
  obtain ⟨p0, p1, p2, p3, p4, p5, p6⟩ := T0.boxZ (.bool g, .string (natS n), .string (natS (qD x))) (by rw [HBL.out]; rfl)
  go_wp2_with fail
  refine (K3.out _).mono ?_
  rintro ee w3 ⟨rfl, hb⟩
  replace T0 := T0.step hb
  clear hb
  clear p0 p1 p2 p3 p4 p5 p6
  obtain ⟨p0, p1, p2, p3, p4, p5, p6⟩ := T0.boxZ (.bool g, .string (natS n), .string (natS (qD x))) (by rw [HBL.out]; rfl)
  go_wp2_with fail
  refine (K4.out _).mono ?_
  rintro ee w4 ⟨rfl, hb⟩
  replace T0 := T0.step hb
  clear hb
  clear p0 p1 p2 p3 p4 p5 p6
  obtain ⟨p0, p1, p2, p3, p4, p5, p6⟩ := T0.boxZ (.bool g, .string (natS n), .string (natS (qD x))) (by rw [HBL.out]; rfl)
  obtain ⟨q0, q1, q2, q3, q4, q5, q6⟩ := T0.res (n := 1) hbn
  have hfin := below_put3 T0.1 (show w.heap.size ≤ w.heap.size + 1 by omega)
  go_wp2_with fail
  refine bodyPost_ret (v := .tuple #[.agg #[.bool M.g, .string (natS M.n), .int .i64 M.x], .bool b]) (by simp [results, Tryz.results16, go_sem, q0, q1, q2, q3]) rfl ⟨rfl, (by first | exact hfin _ _ _ | exact (hfin _ _ _).alloc (by simp; omega) _)⟩
set_option maxRecDepth 100000 in
set_option maxHeartbeats 300000 in
theorem rDyad_ok (x : Rat) (h : qfits x) (hz : nd 256 (qN x) ≤ 5000 ∧ nd 256 (qD x) ≤ 5000) (hp : odN (qD x) = 1) (w : World) : Calls Tryz.prog 17 #[.agg #[.bool (qG x), .string (natS (qN x)), .string (natS (qD x))]] w fun e' w' => e' = .returned (.tuple #[(mkD (qG x) (qN x) (-(lowN (qD x) : Int))).v, .bool (mkE (qN x) (-(lowN (qD x) : Int)) == 0)]) ∧ Below w.heap.size w w' := by
  have K1 := Lib.hid (fun w => rMay4_yes x w h hz)
  have K2 := Lib.hid (fun w => rLowB (qD x) (lowN (qD x)) w h.2 (lowN_is _))
  have d1 := qD_pos x
  have hl := low_bound d1 h.2
  have hw : IntKind.i64.wrap (-(lowN (qD x) : Int)) = -(lowN (qD x) : Int) := IntWalk.i64_in _ ⟨by omega, by omega⟩
  have K3 : Hid (∀ w, Calls Tryz.prog 66 #[.string (natS (qD x)), .int .i64 (-(lowN (qD x) : Int))] w (StrPost (natS (odN (qD x))) 0 w)) := Lib.hid (fun w => rShift_neg (qD x) (lowN (qD x)) w h.2)
  rw [hp] at K3
  have f1 : (natS 1).toList = [1] := one_yes rfl
  have K4 := Lib.hid (fun w => rMake3_c (qG x) (qN x) (-(lowN (qD x) : Int)) w h.1 ⟨by omega, by omega⟩)
  obtain ⟨b, hb0⟩ : ∃ b, (mkE (qN x) (-(lowN (qD x) : Int)) == 0) = b := ⟨_, rfl⟩
  unfold MkPost at K4
  rw [hb0]
  clear h hz hp hl d1
  unfold qv at *
  generalize mkD (qG x) (qN x) (-(lowN (qD x) : Int)) = M at *
  generalize mkE (qN x) (-(lowN (qD x) : Int)) = E at *
  generalize hll : lowN (qD x) = l at *
  unfold Dy.v at *
  clear hll
  generalize qG x = g at *
  generalize qN x = n at *
  have hbn0 := bne_of hb0
  have HB := Lib.hid hb0
  obtain ⟨bl, hbl⟩ : ∃ bl : List C3, bl = [(.bool g, .string (natS n), .string (natS (qD x)))] := ⟨_, rfl⟩
  have hbn : bl.length = 1 := by rw [hbl]; rfl
  have T0 := BR.start1 w (.bool g) (.string (natS n)) (.string (natS (qD x))) false (.string ⟨#[]⟩) (.int .i64 0) 24 26
  rw [← hbl] at T0
  have HBL := Lib.hid hbl
  clear hbl
  go_enter Tryz.func17, Tryz.ntmps17
  go_wp2_with fail
  refine (K1.out _).mono ?_
  rintro ee w1 ⟨rfl, hb⟩
  replace T0 := T0.step hb
  clear hb
  obtain ⟨p0, p1, p2, p3, p4, p5, p6⟩ := T0.boxZ (.bool g, .string (natS n), .string (natS (qD x))) (by rw [HBL.out]; rfl)
  go_wp2_with fail
  refine (K2.out _).mono ?_
  rintro ee w2 ⟨rfl, hb⟩
  replace T0 := T0.step hb
  clear hb
  clear p0 p1 p2 p3 p4 p5 p6
  obtain ⟨p0, p1, p2, p3, p4, p5, p6⟩ := T0.boxZ (.bool g, .string (natS n), .string (natS (qD x))) (by rw [HBL.out]; rfl)
  go_wp2_with fail
  refine (K3.out _).mono ?_
  rintro ee w3 ⟨rfl, hb⟩
  replace T0 := T0.step hb
  clear hb
  clear p0 p1 p2 p3 p4 p5 p6
  obtain ⟨p0, p1, p2, p3, p4, p5, p6⟩ := T0.boxZ (.bool g, .string (natS n), .string (natS (qD x))) (by rw [HBL.out]; rfl)
  go_wp2_with fail
  refine (K4.out _).mono ?_
  rintro ee w4 ⟨rfl, hb⟩
  replace T0 := T0.step hb
  clear hb
  clear p0 p1 p2 p3 p4 p5 p6
  obtain ⟨p0, p1, p2, p3, p4, p5, p6⟩ := T0.boxZ (.bool g, .string (natS n), .string (natS (qD x))) (by rw [HBL.out]; rfl)
  obtain ⟨q0, q1, q2, q3, q4, q5, q6⟩ := T0.res (n := 1) hbn
  have hfin := below_put3 T0.1 (show w.heap.size ≤ w.heap.size + 1 by omega)
  go_wp2_with fail
  refine bodyPost_ret (v := .tuple #[.agg #[.bool M.g, .string (natS M.n), .int .i64 M.x], .bool b]) (by simp [results, Tryz.results17, go_sem, q0, q1, q2, q3]) rfl ⟨rfl, (by first | exact hfin _ _ _ | exact (hfin _ _ _).alloc (by simp; omega) _)⟩
end Go.Proofs.YtajcapliokblfaaGreatDoor
set_option linter.unusedVariables false
set_option linter.unusedSimpArgs false
namespace Go.Proofs.YtajcapliokblfaaGreatDoor
open Go Go.RowKit Nt

/-- A Dyad as it comes in. -/
structure Dx where
  g : Bool
  s : ByteArray
  x : Int
set_option maxRecDepth 100000 in
set_option maxHeartbeats 1000000 in
theorem optY_eql_s [Env] {A B : AV} {a : Dx} (ha : gval A = .agg #[.bool a.g, .string a.s, .int .i64 a.x]) (hb : gval B = .agg #[.bool a.g, .string a.s, .int .i64 a.x]) : OpT Tryz.prog [0, 11, 26] [A, B] (.lit (.bool true)) :=
  opt_bin (op := .eql) (r := .lit (.bool true)) rfl fun p q w => by
    rw [ha, hb]
    show _ = Result.ok (Value.bool true) w
    obtain ⟨g, s, x⟩ := a
    go_simp

@[reducible] def RatioMakes_s0_f : FuncId := 3
@[reducible] def RatioMakes_s0_a : List AV := [.agg [.sym 0, .sym 1, .sym 2], .sym 3, .sym 4, .sym 5, .sym 6, .agg [.sym 7, .sym 8, .sym 9]]
@[reducible] noncomputable def RatioMakes_s0_k : Know := ⟨[],
  [(9, [.agg [.sym 0, .sym 1, .sym 2]], .lit (.bool false)),
  (11, [], .lit (.bool true))]⟩
theorem RatioMakes_s0_r1 : @comes RatioMakes_s0_k Tryz.prog glT 3000 RatioMakes_s0_f RatioMakes_s0_a = some (.lit (.bool true)) := by kernel_rfl

set_option maxRecDepth 100000 in
set_option maxHeartbeats 4000000 in
theorem RatioMakes_s0 (a : Rx) (neg : Bool) (num den : ByteArray) (n : Int) (d : Dx) (w : World) (hG : Globs glT w) (hsm : ∀ w, Calls Tryz.prog 9 #[.agg #[.bool a.g, .string a.s, .string a.t]] w fun e w' => e = .returned (.bool false) ∧ Below w.heap.size w w') : Calls Tryz.prog 3 #[.agg #[.bool a.g, .string a.s, .string a.t], .bool neg, .string num, .string den, .int .i64 n, .agg #[.bool d.g, .string d.s, .int .i64 d.x]] w fun e w' => e = .returned (.bool true) ∧ Below w.heap.size w w' := by
  letI : Env := mkEnv glT [.bool a.g, .string a.s, .string a.t, .bool neg, .string num, .string den, .int .i64 n, .bool d.g, .string d.s, .int .i64 d.x] rfl
  have hops : OpsT Tryz.prog (@Know.ops RatioMakes_s0_k) := trivial
  have hcalls : CallsT Tryz.prog (@Know.calls RatioMakes_s0_k) := ⟨callt rfl rfl fun w hG => hsm w,
    callt rfl rfl fun w hG => lives4_c w hG,
    trivial⟩
  have fin : ∀ v, @comes RatioMakes_s0_k Tryz.prog glT 3000 RatioMakes_s0_f RatioMakes_s0_a = some v → ground v = true → Ending.returned (gval v) = .returned (.bool true) → Calls Tryz.prog 3 #[.agg #[.bool a.g, .string a.s, .string a.t], .bool neg, .string num, .string den, .int .i64 n, .agg #[.bool d.g, .string d.s, .int .i64 d.x]] w fun e w' => e = .returned (.bool true) ∧ Below w.heap.size w w' := fun v h1 h2 h3 => (@sym_ok _ RatioMakes_s0_k _ (@KnowOk.of _ RatioMakes_s0_k _ hops hcalls) (by kernel_rfl) _ _ _ _ h1 rfl h2 _ hG).mono fun e w' h => ⟨h.1.trans h3, h.2⟩
  clear hops hcalls
  exact fin _ (RatioMakes_s0_r1) rfl rfl

@[reducible] def RatioMakes_s1_f : FuncId := 3
@[reducible] def RatioMakes_s1_a : List AV := [.agg [.sym 0, .sym 1, .sym 2], .sym 3, .sym 4, .sym 5, .sym 6, .agg [.sym 7, .sym 8, .sym 9]]
@[reducible] noncomputable def RatioMakes_s1_k : Know := ⟨[],
  [(9, [.agg [.sym 0, .sym 1, .sym 2]], .lit (.bool true)),
  (10, [.sym 4], .lit (.bool false)),
  (11, [], .lit (.bool true))]⟩
theorem RatioMakes_s1_r1 : @comes RatioMakes_s1_k Tryz.prog glT 3000 RatioMakes_s1_f RatioMakes_s1_a = some (.lit (.bool true)) := by kernel_rfl

set_option maxRecDepth 100000 in
set_option maxHeartbeats 4000000 in
theorem RatioMakes_s1 (a : Rx) (neg : Bool) (num den : ByteArray) (n : Int) (d : Dx) (w : World) (hG : Globs glT w) (hsm : ∀ w, Calls Tryz.prog 9 #[.agg #[.bool a.g, .string a.s, .string a.t]] w fun e w' => e = .returned (.bool true) ∧ Below w.heap.size w w') (hfn : ∀ w, Calls Tryz.prog 10 #[.string num] w fun e w' => e = .returned (.bool false) ∧ Below w.heap.size w w') : Calls Tryz.prog 3 #[.agg #[.bool a.g, .string a.s, .string a.t], .bool neg, .string num, .string den, .int .i64 n, .agg #[.bool d.g, .string d.s, .int .i64 d.x]] w fun e w' => e = .returned (.bool true) ∧ Below w.heap.size w w' := by
  letI : Env := mkEnv glT [.bool a.g, .string a.s, .string a.t, .bool neg, .string num, .string den, .int .i64 n, .bool d.g, .string d.s, .int .i64 d.x] rfl
  have hops : OpsT Tryz.prog (@Know.ops RatioMakes_s1_k) := trivial
  have hcalls : CallsT Tryz.prog (@Know.calls RatioMakes_s1_k) := ⟨callt rfl rfl fun w hG => hsm w,
    callt rfl rfl fun w hG => hfn w,
    callt rfl rfl fun w hG => lives4_c w hG,
    trivial⟩
  have fin : ∀ v, @comes RatioMakes_s1_k Tryz.prog glT 3000 RatioMakes_s1_f RatioMakes_s1_a = some v → ground v = true → Ending.returned (gval v) = .returned (.bool true) → Calls Tryz.prog 3 #[.agg #[.bool a.g, .string a.s, .string a.t], .bool neg, .string num, .string den, .int .i64 n, .agg #[.bool d.g, .string d.s, .int .i64 d.x]] w fun e w' => e = .returned (.bool true) ∧ Below w.heap.size w w' := fun v h1 h2 h3 => (@sym_ok _ RatioMakes_s1_k _ (@KnowOk.of _ RatioMakes_s1_k _ hops hcalls) (by kernel_rfl) _ _ _ _ h1 rfl h2 _ hG).mono fun e w' h => ⟨h.1.trans h3, h.2⟩
  clear hops hcalls
  exact fin _ (RatioMakes_s1_r1) rfl rfl

@[reducible] def RatioMakes_s2_f : FuncId := 3
@[reducible] def RatioMakes_s2_a : List AV := [.agg [.sym 0, .sym 1, .sym 2], .sym 3, .sym 4, .sym 5, .sym 6, .agg [.sym 7, .sym 8, .sym 9]]
@[reducible] noncomputable def RatioMakes_s2_k : Know := ⟨[],
  [(9, [.agg [.sym 0, .sym 1, .sym 2]], .lit (.bool true)),
  (10, [.sym 4], .lit (.bool true)),
  (10, [.sym 5], .lit (.bool false)),
  (11, [], .lit (.bool true))]⟩
theorem RatioMakes_s2_r1 : @comes RatioMakes_s2_k Tryz.prog glT 3000 RatioMakes_s2_f RatioMakes_s2_a = some (.lit (.bool true)) := by kernel_rfl

set_option maxRecDepth 100000 in
set_option maxHeartbeats 4000000 in
theorem RatioMakes_s2 (a : Rx) (neg : Bool) (num den : ByteArray) (n : Int) (d : Dx) (w : World) (hG : Globs glT w) (hsm : ∀ w, Calls Tryz.prog 9 #[.agg #[.bool a.g, .string a.s, .string a.t]] w fun e w' => e = .returned (.bool true) ∧ Below w.heap.size w w') (hfn : ∀ w, Calls Tryz.prog 10 #[.string num] w fun e w' => e = .returned (.bool true) ∧ Below w.heap.size w w') (hfd : ∀ w, Calls Tryz.prog 10 #[.string den] w fun e w' => e = .returned (.bool false) ∧ Below w.heap.size w w') : Calls Tryz.prog 3 #[.agg #[.bool a.g, .string a.s, .string a.t], .bool neg, .string num, .string den, .int .i64 n, .agg #[.bool d.g, .string d.s, .int .i64 d.x]] w fun e w' => e = .returned (.bool true) ∧ Below w.heap.size w w' := by
  letI : Env := mkEnv glT [.bool a.g, .string a.s, .string a.t, .bool neg, .string num, .string den, .int .i64 n, .bool d.g, .string d.s, .int .i64 d.x] rfl
  have hops : OpsT Tryz.prog (@Know.ops RatioMakes_s2_k) := trivial
  have hcalls : CallsT Tryz.prog (@Know.calls RatioMakes_s2_k) := ⟨callt rfl rfl fun w hG => hsm w,
    callt rfl rfl fun w hG => hfn w,
    callt rfl rfl fun w hG => hfd w,
    callt rfl rfl fun w hG => lives4_c w hG,
    trivial⟩
  have fin : ∀ v, @comes RatioMakes_s2_k Tryz.prog glT 3000 RatioMakes_s2_f RatioMakes_s2_a = some v → ground v = true → Ending.returned (gval v) = .returned (.bool true) → Calls Tryz.prog 3 #[.agg #[.bool a.g, .string a.s, .string a.t], .bool neg, .string num, .string den, .int .i64 n, .agg #[.bool d.g, .string d.s, .int .i64 d.x]] w fun e w' => e = .returned (.bool true) ∧ Below w.heap.size w w' := fun v h1 h2 h3 => (@sym_ok _ RatioMakes_s2_k _ (@KnowOk.of _ RatioMakes_s2_k _ hops hcalls) (by kernel_rfl) _ _ _ _ h1 rfl h2 _ hG).mono fun e w' h => ⟨h.1.trans h3, h.2⟩
  clear hops hcalls
  exact fin _ (RatioMakes_s2_r1) rfl rfl

@[reducible] def RatioMakes_s3_f : FuncId := 3
@[reducible] def RatioMakes_s3_a : List AV := [.agg [.sym 0, .sym 1, .sym 2], .sym 3, .sym 4, .sym 5, .sym 6, .agg [.sym 7, .sym 8, .sym 9]]
@[reducible] noncomputable def RatioMakes_s3_k : Know := ⟨[],
  [(9, [.agg [.sym 0, .sym 1, .sym 2]], .lit (.bool true)),
  (10, [.sym 4], .lit (.bool true)),
  (10, [.sym 5], .lit (.bool true)),
  (10, [.sym 8], .lit (.bool false)),
  (11, [], .lit (.bool true))]⟩
theorem RatioMakes_s3_r1 : @comes RatioMakes_s3_k Tryz.prog glT 3000 RatioMakes_s3_f RatioMakes_s3_a = some (.lit (.bool true)) := by kernel_rfl

set_option maxRecDepth 100000 in
set_option maxHeartbeats 4000000 in
theorem RatioMakes_s3 (a : Rx) (neg : Bool) (num den : ByteArray) (n : Int) (d : Dx) (w : World) (hG : Globs glT w) (hsm : ∀ w, Calls Tryz.prog 9 #[.agg #[.bool a.g, .string a.s, .string a.t]] w fun e w' => e = .returned (.bool true) ∧ Below w.heap.size w w') (hfn : ∀ w, Calls Tryz.prog 10 #[.string num] w fun e w' => e = .returned (.bool true) ∧ Below w.heap.size w w') (hfd : ∀ w, Calls Tryz.prog 10 #[.string den] w fun e w' => e = .returned (.bool true) ∧ Below w.heap.size w w') (hfy : ∀ w, Calls Tryz.prog 10 #[.string d.s] w fun e w' => e = .returned (.bool false) ∧ Below w.heap.size w w') : Calls Tryz.prog 3 #[.agg #[.bool a.g, .string a.s, .string a.t], .bool neg, .string num, .string den, .int .i64 n, .agg #[.bool d.g, .string d.s, .int .i64 d.x]] w fun e w' => e = .returned (.bool true) ∧ Below w.heap.size w w' := by
  letI : Env := mkEnv glT [.bool a.g, .string a.s, .string a.t, .bool neg, .string num, .string den, .int .i64 n, .bool d.g, .string d.s, .int .i64 d.x] rfl
  have hops : OpsT Tryz.prog (@Know.ops RatioMakes_s3_k) := trivial
  have hcalls : CallsT Tryz.prog (@Know.calls RatioMakes_s3_k) := ⟨callt rfl rfl fun w hG => hsm w,
    callt rfl rfl fun w hG => hfn w,
    callt rfl rfl fun w hG => hfd w,
    callt rfl rfl fun w hG => hfy w,
    callt rfl rfl fun w hG => lives4_c w hG,
    trivial⟩
  have fin : ∀ v, @comes RatioMakes_s3_k Tryz.prog glT 3000 RatioMakes_s3_f RatioMakes_s3_a = some v → ground v = true → Ending.returned (gval v) = .returned (.bool true) → Calls Tryz.prog 3 #[.agg #[.bool a.g, .string a.s, .string a.t], .bool neg, .string num, .string den, .int .i64 n, .agg #[.bool d.g, .string d.s, .int .i64 d.x]] w fun e w' => e = .returned (.bool true) ∧ Below w.heap.size w w' := fun v h1 h2 h3 => (@sym_ok _ RatioMakes_s3_k _ (@KnowOk.of _ RatioMakes_s3_k _ hops hcalls) (by kernel_rfl) _ _ _ _ h1 rfl h2 _ hG).mono fun e w' h => ⟨h.1.trans h3, h.2⟩
  clear hops hcalls
  exact fin _ (RatioMakes_s3_r1) rfl rfl

@[reducible] def RatioMakes_g00_f : FuncId := 3
@[reducible] def RatioMakes_g00_a : List AV := [.agg [.sym 0, .sym 1, .sym 2], .sym 3, .sym 4, .sym 5, .sym 6, .agg [.sym 7, .sym 8, .sym 9]]
@[reducible] noncomputable def RatioMakes_g00_k (b1 b2 : Bool) : Know := ⟨[([0, 11, 24], [.agg [.sym 10, .sym 11, .sym 12], .agg [.sym 13, .sym 14, .sym 15]], .lit (.bool true)),
  ([0, 11, 24], [.agg [.sym 28, .sym 29, .sym 30], .agg [.sym 31, .sym 32, .sym 33]], .lit (.bool true)),
  ([0, 11, 24], [.agg [.sym 16, .sym 17, .sym 18], .agg [.sym 19, .sym 20, .sym 21]], .lit (.bool true)),
  ([0, 11, 26], [.agg [.sym 22, .sym 23, .sym 24], .agg [.sym 25, .sym 26, .sym 27]], .lit (.bool true))],
  [(9, [.agg [.sym 0, .sym 1, .sym 2]], .lit (.bool true)),
  (10, [.sym 4], .lit (.bool true)),
  (10, [.sym 5], .lit (.bool true)),
  (10, [.sym 8], .lit (.bool true)),
  (12, [.sym 3, .sym 4, .sym 5], .tup [.agg [.sym 10, .sym 11, .sym 12], .lit (.int .i64 0)]),
  (13, [.sym 3, .sym 4, .sym 5], .tup [.agg [.sym 13, .sym 14, .sym 15], .lit (.int .i64 0)]),
  (14, [.agg [.sym 7, .sym 8, .sym 9]], .tup [.agg [.sym 16, .sym 17, .sym 18], .lit (.int .i64 0)]),
  (15, [.agg [.sym 7, .sym 8, .sym 9]], .tup [.agg [.sym 19, .sym 20, .sym 21], .lit (.int .i64 0)]),
  (16, [.agg [.sym 0, .sym 1, .sym 2]], .tup [.agg [.sym 22, .sym 23, .sym 24], .lit (.bool b1)]),
  (17, [.agg [.sym 0, .sym 1, .sym 2]], .tup [.agg [.sym 25, .sym 26, .sym 27], .lit (.bool b1)]),
  (18, [.agg [.sym 0, .sym 1, .sym 2]], .lit (.bool b2)),
  (19, [.agg [.sym 0, .sym 1, .sym 2]], .lit (.bool b2)),
  (20, [.sym 6], .agg [.sym 28, .sym 29, .sym 30]),
  (21, [.sym 6], .agg [.sym 31, .sym 32, .sym 33]),
  (11, [], .lit (.bool true))]⟩
theorem RatioMakes_g00_r1 : @comes (RatioMakes_g00_k true true) Tryz.prog glT 3000 RatioMakes_g00_f RatioMakes_g00_a = some (.lit (.bool true)) := by kernel_rfl
theorem RatioMakes_g00_r2 : @comes (RatioMakes_g00_k true false) Tryz.prog glT 3000 RatioMakes_g00_f RatioMakes_g00_a = some (.lit (.bool true)) := by kernel_rfl
theorem RatioMakes_g00_r3 : @comes (RatioMakes_g00_k false true) Tryz.prog glT 3000 RatioMakes_g00_f RatioMakes_g00_a = some (.lit (.bool true)) := by kernel_rfl
theorem RatioMakes_g00_r4 : @comes (RatioMakes_g00_k false false) Tryz.prog glT 3000 RatioMakes_g00_f RatioMakes_g00_a = some (.lit (.bool true)) := by kernel_rfl

set_option maxRecDepth 100000 in
set_option maxHeartbeats 4000000 in
theorem RatioMakes_g00 (a : Rx) (neg : Bool) (num den : ByteArray) (n : Int) (d : Dx) (r1 r2 : Rx) (y : Dx) (m b : Bool) (w : World) (hG : Globs glT w) (hsm : ∀ w, Calls Tryz.prog 9 #[.agg #[.bool a.g, .string a.s, .string a.t]] w fun e w' => e = .returned (.bool true) ∧ Below w.heap.size w w') (hfn : ∀ w, Calls Tryz.prog 10 #[.string num] w fun e w' => e = .returned (.bool true) ∧ Below w.heap.size w w') (hfd : ∀ w, Calls Tryz.prog 10 #[.string den] w fun e w' => e = .returned (.bool true) ∧ Below w.heap.size w w') (hfy : ∀ w, Calls Tryz.prog 10 #[.string d.s] w fun e w' => e = .returned (.bool true) ∧ Below w.heap.size w w') (hN : ∀ w, Calls Tryz.prog 12 #[.bool neg, .string num, .string den] w fun e w' => e = .returned (.tuple #[.agg #[.bool r1.g, .string r1.s, .string r1.t], .int .i64 0]) ∧ Below w.heap.size w w') (hrN : ∀ w, Calls Tryz.prog 13 #[.bool neg, .string num, .string den] w fun e w' => e = .returned (.tuple #[.agg #[.bool r1.g, .string r1.s, .string r1.t], .int .i64 0]) ∧ Below w.heap.size w w') (hO : ∀ w, Calls Tryz.prog 14 #[.agg #[.bool d.g, .string d.s, .int .i64 d.x]] w fun e w' => e = .returned (.tuple #[.agg #[.bool r2.g, .string r2.s, .string r2.t], .int .i64 0]) ∧ Below w.heap.size w w') (hrO : ∀ w, Calls Tryz.prog 15 #[.agg #[.bool d.g, .string d.s, .int .i64 d.x]] w fun e w' => e = .returned (.tuple #[.agg #[.bool r2.g, .string r2.s, .string r2.t], .int .i64 0]) ∧ Below w.heap.size w w') (hD : ∀ c : Bool, (c = true ↔ b = true) → ∀ w, Calls Tryz.prog 16 #[.agg #[.bool a.g, .string a.s, .string a.t]] w fun e w' => e = .returned (.tuple #[.agg #[.bool y.g, .string y.s, .int .i64 y.x], .bool c]) ∧ Below w.heap.size w w') (hrD : ∀ c : Bool, (c = true ↔ b = true) → ∀ w, Calls Tryz.prog 17 #[.agg #[.bool a.g, .string a.s, .string a.t]] w fun e w' => e = .returned (.tuple #[.agg #[.bool y.g, .string y.s, .int .i64 y.x], .bool c]) ∧ Below w.heap.size w w') (hM : ∀ c : Bool, (c = true ↔ m = true) → ∀ w, Calls Tryz.prog 18 #[.agg #[.bool a.g, .string a.s, .string a.t]] w fun e w' => e = .returned (.bool c) ∧ Below w.heap.size w w') (hrM : ∀ c : Bool, (c = true ↔ m = true) → ∀ w, Calls Tryz.prog 19 #[.agg #[.bool a.g, .string a.s, .string a.t]] w fun e w' => e = .returned (.bool c) ∧ Below w.heap.size w w') (hW : ∀ w, Calls Tryz.prog 20 #[.int .i64 n] w fun e w' => e = .returned (qv (n : Rat)) ∧ Below w.heap.size w w') (hrW : ∀ w, Calls Tryz.prog 21 #[.int .i64 n] w fun e w' => e = .returned (qv (n : Rat)) ∧ Below w.heap.size w w') : Calls Tryz.prog 3 #[.agg #[.bool a.g, .string a.s, .string a.t], .bool neg, .string num, .string den, .int .i64 n, .agg #[.bool d.g, .string d.s, .int .i64 d.x]] w fun e w' => e = .returned (.bool true) ∧ Below w.heap.size w w' := by
  obtain ⟨b1, i1⟩ := bex (b = true)
  obtain ⟨b2, i2⟩ := bex (m = true)
  letI : Env := mkEnv glT [.bool a.g, .string a.s, .string a.t, .bool neg, .string num, .string den, .int .i64 n, .bool d.g, .string d.s, .int .i64 d.x, .bool r1.g, .string r1.s, .string r1.t, .bool r1.g, .string r1.s, .string r1.t, .bool r2.g, .string r2.s, .string r2.t, .bool r2.g, .string r2.s, .string r2.t, .bool y.g, .string y.s, .int .i64 y.x, .bool y.g, .string y.s, .int .i64 y.x, .bool (qG (n : Rat)), .string (natS (qN (n : Rat))), .string (natS (qD (n : Rat))), .bool (qG (n : Rat)), .string (natS (qN (n : Rat))), .string (natS (qD (n : Rat)))] rfl
  have hops : OpsT Tryz.prog (@Know.ops (RatioMakes_g00_k b1 b2)) := ⟨optR_eql_i (a := r1) (b := r1) rfl rfl ⟨fun _ => rfl, fun _ => rfl⟩,
    optR_eql_i (a := qr (n : Rat)) (b := qr (n : Rat)) rfl rfl ⟨fun _ => rfl, fun _ => rfl⟩,
    optR_eql_i (a := r2) (b := r2) rfl rfl ⟨fun _ => rfl, fun _ => rfl⟩,
    optY_eql_s (a := y) rfl rfl,
    trivial⟩
  have hcalls : CallsT Tryz.prog (@Know.calls (RatioMakes_g00_k b1 b2)) := ⟨callt rfl rfl fun w hG => hsm w,
    callt rfl rfl fun w hG => hfn w,
    callt rfl rfl fun w hG => hfd w,
    callt rfl rfl fun w hG => hfy w,
    callt rfl rfl fun w hG => hN w,
    callt rfl rfl fun w hG => hrN w,
    callt rfl rfl fun w hG => hO w,
    callt rfl rfl fun w hG => hrO w,
    callt rfl rfl fun w hG => hD _ i1 w,
    callt rfl rfl fun w hG => hrD _ i1 w,
    callt rfl rfl fun w hG => hM _ i2 w,
    callt rfl rfl fun w hG => hrM _ i2 w,
    callt rfl rfl fun w hG => hW w,
    callt rfl rfl fun w hG => hrW w,
    callt rfl rfl fun w hG => lives4_c w hG,
    trivial⟩
  have fin : ∀ v, @comes (RatioMakes_g00_k b1 b2) Tryz.prog glT 3000 RatioMakes_g00_f RatioMakes_g00_a = some v → ground v = true → Ending.returned (gval v) = .returned (.bool true) → Calls Tryz.prog 3 #[.agg #[.bool a.g, .string a.s, .string a.t], .bool neg, .string num, .string den, .int .i64 n, .agg #[.bool d.g, .string d.s, .int .i64 d.x]] w fun e w' => e = .returned (.bool true) ∧ Below w.heap.size w w' := fun v h1 h2 h3 => (@sym_ok _ (RatioMakes_g00_k b1 b2) _ (@KnowOk.of _ (RatioMakes_g00_k b1 b2) _ hops hcalls) (by kernel_rfl) _ _ _ _ h1 rfl h2 _ hG).mono fun e w' h => ⟨h.1.trans h3, h.2⟩
  clear hops hcalls
  cases b1 with
  | true =>
    have h1 : b = true := i1.1 rfl
    cases b2 with
    | true =>
      have h2 : m = true := i2.1 rfl
      exact fin _ (RatioMakes_g00_r1) rfl rfl
    | false =>
      have h2 : ¬ (m = true) := fun c => Bool.false_ne_true (i2.2 c)
      exact fin _ (RatioMakes_g00_r2) rfl rfl
  | false =>
    have h1 : ¬ (b = true) := fun c => Bool.false_ne_true (i1.2 c)
    cases b2 with
    | true =>
      have h2 : m = true := i2.1 rfl
      exact fin _ (RatioMakes_g00_r3) rfl rfl
    | false =>
      have h2 : ¬ (m = true) := fun c => Bool.false_ne_true (i2.2 c)
      exact fin _ (RatioMakes_g00_r4) rfl rfl

@[reducible] def RatioMakes_g02_f : FuncId := 3
@[reducible] def RatioMakes_g02_a : List AV := [.agg [.sym 0, .sym 1, .sym 2], .sym 3, .sym 4, .sym 5, .sym 6, .agg [.sym 7, .sym 8, .sym 9]]
@[reducible] noncomputable def RatioMakes_g02_k (b1 b2 : Bool) : Know := ⟨[([0, 11, 24], [.agg [.sym 10, .sym 11, .sym 12], .agg [.sym 13, .sym 14, .sym 15]], .lit (.bool true)),
  ([0, 11, 24], [.agg [.sym 28, .sym 29, .sym 30], .agg [.sym 31, .sym 32, .sym 33]], .lit (.bool true)),
  ([0, 11, 24], [.agg [.sym 16, .sym 17, .sym 18], .agg [.sym 19, .sym 20, .sym 21]], .lit (.bool true)),
  ([0, 11, 26], [.agg [.sym 22, .sym 23, .sym 24], .agg [.sym 25, .sym 26, .sym 27]], .lit (.bool true))],
  [(9, [.agg [.sym 0, .sym 1, .sym 2]], .lit (.bool true)),
  (10, [.sym 4], .lit (.bool true)),
  (10, [.sym 5], .lit (.bool true)),
  (10, [.sym 8], .lit (.bool true)),
  (12, [.sym 3, .sym 4, .sym 5], .tup [.agg [.sym 10, .sym 11, .sym 12], .lit (.int .i64 0)]),
  (13, [.sym 3, .sym 4, .sym 5], .tup [.agg [.sym 13, .sym 14, .sym 15], .lit (.int .i64 0)]),
  (14, [.agg [.sym 7, .sym 8, .sym 9]], .tup [.agg [.sym 16, .sym 17, .sym 18], .lit (.int .i64 2)]),
  (15, [.agg [.sym 7, .sym 8, .sym 9]], .tup [.agg [.sym 19, .sym 20, .sym 21], .lit (.int .i64 2)]),
  (16, [.agg [.sym 0, .sym 1, .sym 2]], .tup [.agg [.sym 22, .sym 23, .sym 24], .lit (.bool b1)]),
  (17, [.agg [.sym 0, .sym 1, .sym 2]], .tup [.agg [.sym 25, .sym 26, .sym 27], .lit (.bool b1)]),
  (18, [.agg [.sym 0, .sym 1, .sym 2]], .lit (.bool b2)),
  (19, [.agg [.sym 0, .sym 1, .sym 2]], .lit (.bool b2)),
  (20, [.sym 6], .agg [.sym 28, .sym 29, .sym 30]),
  (21, [.sym 6], .agg [.sym 31, .sym 32, .sym 33]),
  (11, [], .lit (.bool true))]⟩
theorem RatioMakes_g02_r1 : @comes (RatioMakes_g02_k true true) Tryz.prog glT 3000 RatioMakes_g02_f RatioMakes_g02_a = some (.lit (.bool true)) := by kernel_rfl
theorem RatioMakes_g02_r2 : @comes (RatioMakes_g02_k true false) Tryz.prog glT 3000 RatioMakes_g02_f RatioMakes_g02_a = some (.lit (.bool true)) := by kernel_rfl
theorem RatioMakes_g02_r3 : @comes (RatioMakes_g02_k false true) Tryz.prog glT 3000 RatioMakes_g02_f RatioMakes_g02_a = some (.lit (.bool true)) := by kernel_rfl
theorem RatioMakes_g02_r4 : @comes (RatioMakes_g02_k false false) Tryz.prog glT 3000 RatioMakes_g02_f RatioMakes_g02_a = some (.lit (.bool true)) := by kernel_rfl

set_option maxRecDepth 100000 in
set_option maxHeartbeats 4000000 in
theorem RatioMakes_g02 (a : Rx) (neg : Bool) (num den : ByteArray) (n : Int) (d : Dx) (r1 r2 : Rx) (y : Dx) (m b : Bool) (w : World) (hG : Globs glT w) (hsm : ∀ w, Calls Tryz.prog 9 #[.agg #[.bool a.g, .string a.s, .string a.t]] w fun e w' => e = .returned (.bool true) ∧ Below w.heap.size w w') (hfn : ∀ w, Calls Tryz.prog 10 #[.string num] w fun e w' => e = .returned (.bool true) ∧ Below w.heap.size w w') (hfd : ∀ w, Calls Tryz.prog 10 #[.string den] w fun e w' => e = .returned (.bool true) ∧ Below w.heap.size w w') (hfy : ∀ w, Calls Tryz.prog 10 #[.string d.s] w fun e w' => e = .returned (.bool true) ∧ Below w.heap.size w w') (hN : ∀ w, Calls Tryz.prog 12 #[.bool neg, .string num, .string den] w fun e w' => e = .returned (.tuple #[.agg #[.bool r1.g, .string r1.s, .string r1.t], .int .i64 0]) ∧ Below w.heap.size w w') (hrN : ∀ w, Calls Tryz.prog 13 #[.bool neg, .string num, .string den] w fun e w' => e = .returned (.tuple #[.agg #[.bool r1.g, .string r1.s, .string r1.t], .int .i64 0]) ∧ Below w.heap.size w w') (hO : ∀ w, Calls Tryz.prog 14 #[.agg #[.bool d.g, .string d.s, .int .i64 d.x]] w fun e w' => e = .returned (.tuple #[.agg #[.bool r2.g, .string r2.s, .string r2.t], .int .i64 2]) ∧ Below w.heap.size w w') (hrO : ∀ w, Calls Tryz.prog 15 #[.agg #[.bool d.g, .string d.s, .int .i64 d.x]] w fun e w' => e = .returned (.tuple #[.agg #[.bool r2.g, .string r2.s, .string r2.t], .int .i64 2]) ∧ Below w.heap.size w w') (hD : ∀ c : Bool, (c = true ↔ b = true) → ∀ w, Calls Tryz.prog 16 #[.agg #[.bool a.g, .string a.s, .string a.t]] w fun e w' => e = .returned (.tuple #[.agg #[.bool y.g, .string y.s, .int .i64 y.x], .bool c]) ∧ Below w.heap.size w w') (hrD : ∀ c : Bool, (c = true ↔ b = true) → ∀ w, Calls Tryz.prog 17 #[.agg #[.bool a.g, .string a.s, .string a.t]] w fun e w' => e = .returned (.tuple #[.agg #[.bool y.g, .string y.s, .int .i64 y.x], .bool c]) ∧ Below w.heap.size w w') (hM : ∀ c : Bool, (c = true ↔ m = true) → ∀ w, Calls Tryz.prog 18 #[.agg #[.bool a.g, .string a.s, .string a.t]] w fun e w' => e = .returned (.bool c) ∧ Below w.heap.size w w') (hrM : ∀ c : Bool, (c = true ↔ m = true) → ∀ w, Calls Tryz.prog 19 #[.agg #[.bool a.g, .string a.s, .string a.t]] w fun e w' => e = .returned (.bool c) ∧ Below w.heap.size w w') (hW : ∀ w, Calls Tryz.prog 20 #[.int .i64 n] w fun e w' => e = .returned (qv (n : Rat)) ∧ Below w.heap.size w w') (hrW : ∀ w, Calls Tryz.prog 21 #[.int .i64 n] w fun e w' => e = .returned (qv (n : Rat)) ∧ Below w.heap.size w w') : Calls Tryz.prog 3 #[.agg #[.bool a.g, .string a.s, .string a.t], .bool neg, .string num, .string den, .int .i64 n, .agg #[.bool d.g, .string d.s, .int .i64 d.x]] w fun e w' => e = .returned (.bool true) ∧ Below w.heap.size w w' := by
  obtain ⟨b1, i1⟩ := bex (b = true)
  obtain ⟨b2, i2⟩ := bex (m = true)
  letI : Env := mkEnv glT [.bool a.g, .string a.s, .string a.t, .bool neg, .string num, .string den, .int .i64 n, .bool d.g, .string d.s, .int .i64 d.x, .bool r1.g, .string r1.s, .string r1.t, .bool r1.g, .string r1.s, .string r1.t, .bool r2.g, .string r2.s, .string r2.t, .bool r2.g, .string r2.s, .string r2.t, .bool y.g, .string y.s, .int .i64 y.x, .bool y.g, .string y.s, .int .i64 y.x, .bool (qG (n : Rat)), .string (natS (qN (n : Rat))), .string (natS (qD (n : Rat))), .bool (qG (n : Rat)), .string (natS (qN (n : Rat))), .string (natS (qD (n : Rat)))] rfl
  have hops : OpsT Tryz.prog (@Know.ops (RatioMakes_g02_k b1 b2)) := ⟨optR_eql_i (a := r1) (b := r1) rfl rfl ⟨fun _ => rfl, fun _ => rfl⟩,
    optR_eql_i (a := qr (n : Rat)) (b := qr (n : Rat)) rfl rfl ⟨fun _ => rfl, fun _ => rfl⟩,
    optR_eql_i (a := r2) (b := r2) rfl rfl ⟨fun _ => rfl, fun _ => rfl⟩,
    optY_eql_s (a := y) rfl rfl,
    trivial⟩
  have hcalls : CallsT Tryz.prog (@Know.calls (RatioMakes_g02_k b1 b2)) := ⟨callt rfl rfl fun w hG => hsm w,
    callt rfl rfl fun w hG => hfn w,
    callt rfl rfl fun w hG => hfd w,
    callt rfl rfl fun w hG => hfy w,
    callt rfl rfl fun w hG => hN w,
    callt rfl rfl fun w hG => hrN w,
    callt rfl rfl fun w hG => hO w,
    callt rfl rfl fun w hG => hrO w,
    callt rfl rfl fun w hG => hD _ i1 w,
    callt rfl rfl fun w hG => hrD _ i1 w,
    callt rfl rfl fun w hG => hM _ i2 w,
    callt rfl rfl fun w hG => hrM _ i2 w,
    callt rfl rfl fun w hG => hW w,
    callt rfl rfl fun w hG => hrW w,
    callt rfl rfl fun w hG => lives4_c w hG,
    trivial⟩
  have fin : ∀ v, @comes (RatioMakes_g02_k b1 b2) Tryz.prog glT 3000 RatioMakes_g02_f RatioMakes_g02_a = some v → ground v = true → Ending.returned (gval v) = .returned (.bool true) → Calls Tryz.prog 3 #[.agg #[.bool a.g, .string a.s, .string a.t], .bool neg, .string num, .string den, .int .i64 n, .agg #[.bool d.g, .string d.s, .int .i64 d.x]] w fun e w' => e = .returned (.bool true) ∧ Below w.heap.size w w' := fun v h1 h2 h3 => (@sym_ok _ (RatioMakes_g02_k b1 b2) _ (@KnowOk.of _ (RatioMakes_g02_k b1 b2) _ hops hcalls) (by kernel_rfl) _ _ _ _ h1 rfl h2 _ hG).mono fun e w' h => ⟨h.1.trans h3, h.2⟩
  clear hops hcalls
  cases b1 with
  | true =>
    have h1 : b = true := i1.1 rfl
    cases b2 with
    | true =>
      have h2 : m = true := i2.1 rfl
      exact fin _ (RatioMakes_g02_r1) rfl rfl
    | false =>
      have h2 : ¬ (m = true) := fun c => Bool.false_ne_true (i2.2 c)
      exact fin _ (RatioMakes_g02_r2) rfl rfl
  | false =>
    have h1 : ¬ (b = true) := fun c => Bool.false_ne_true (i1.2 c)
    cases b2 with
    | true =>
      have h2 : m = true := i2.1 rfl
      exact fin _ (RatioMakes_g02_r3) rfl rfl
    | false =>
      have h2 : ¬ (m = true) := fun c => Bool.false_ne_true (i2.2 c)
      exact fin _ (RatioMakes_g02_r4) rfl rfl

@[reducible] def RatioMakes_g04_f : FuncId := 3
@[reducible] def RatioMakes_g04_a : List AV := [.agg [.sym 0, .sym 1, .sym 2], .sym 3, .sym 4, .sym 5, .sym 6, .agg [.sym 7, .sym 8, .sym 9]]
@[reducible] noncomputable def RatioMakes_g04_k (b1 b2 : Bool) : Know := ⟨[([0, 11, 24], [.agg [.sym 10, .sym 11, .sym 12], .agg [.sym 13, .sym 14, .sym 15]], .lit (.bool true)),
  ([0, 11, 24], [.agg [.sym 28, .sym 29, .sym 30], .agg [.sym 31, .sym 32, .sym 33]], .lit (.bool true)),
  ([0, 11, 24], [.agg [.sym 16, .sym 17, .sym 18], .agg [.sym 19, .sym 20, .sym 21]], .lit (.bool true)),
  ([0, 11, 26], [.agg [.sym 22, .sym 23, .sym 24], .agg [.sym 25, .sym 26, .sym 27]], .lit (.bool true))],
  [(9, [.agg [.sym 0, .sym 1, .sym 2]], .lit (.bool true)),
  (10, [.sym 4], .lit (.bool true)),
  (10, [.sym 5], .lit (.bool true)),
  (10, [.sym 8], .lit (.bool true)),
  (12, [.sym 3, .sym 4, .sym 5], .tup [.agg [.sym 10, .sym 11, .sym 12], .lit (.int .i64 0)]),
  (13, [.sym 3, .sym 4, .sym 5], .tup [.agg [.sym 13, .sym 14, .sym 15], .lit (.int .i64 0)]),
  (14, [.agg [.sym 7, .sym 8, .sym 9]], .tup [.agg [.sym 16, .sym 17, .sym 18], .lit (.int .i64 4)]),
  (15, [.agg [.sym 7, .sym 8, .sym 9]], .tup [.agg [.sym 19, .sym 20, .sym 21], .lit (.int .i64 4)]),
  (16, [.agg [.sym 0, .sym 1, .sym 2]], .tup [.agg [.sym 22, .sym 23, .sym 24], .lit (.bool b1)]),
  (17, [.agg [.sym 0, .sym 1, .sym 2]], .tup [.agg [.sym 25, .sym 26, .sym 27], .lit (.bool b1)]),
  (18, [.agg [.sym 0, .sym 1, .sym 2]], .lit (.bool b2)),
  (19, [.agg [.sym 0, .sym 1, .sym 2]], .lit (.bool b2)),
  (20, [.sym 6], .agg [.sym 28, .sym 29, .sym 30]),
  (21, [.sym 6], .agg [.sym 31, .sym 32, .sym 33]),
  (11, [], .lit (.bool true))]⟩
theorem RatioMakes_g04_r1 : @comes (RatioMakes_g04_k true true) Tryz.prog glT 3000 RatioMakes_g04_f RatioMakes_g04_a = some (.lit (.bool true)) := by kernel_rfl
theorem RatioMakes_g04_r2 : @comes (RatioMakes_g04_k true false) Tryz.prog glT 3000 RatioMakes_g04_f RatioMakes_g04_a = some (.lit (.bool true)) := by kernel_rfl
theorem RatioMakes_g04_r3 : @comes (RatioMakes_g04_k false true) Tryz.prog glT 3000 RatioMakes_g04_f RatioMakes_g04_a = some (.lit (.bool true)) := by kernel_rfl
theorem RatioMakes_g04_r4 : @comes (RatioMakes_g04_k false false) Tryz.prog glT 3000 RatioMakes_g04_f RatioMakes_g04_a = some (.lit (.bool true)) := by kernel_rfl

set_option maxRecDepth 100000 in
set_option maxHeartbeats 4000000 in
theorem RatioMakes_g04 (a : Rx) (neg : Bool) (num den : ByteArray) (n : Int) (d : Dx) (r1 r2 : Rx) (y : Dx) (m b : Bool) (w : World) (hG : Globs glT w) (hsm : ∀ w, Calls Tryz.prog 9 #[.agg #[.bool a.g, .string a.s, .string a.t]] w fun e w' => e = .returned (.bool true) ∧ Below w.heap.size w w') (hfn : ∀ w, Calls Tryz.prog 10 #[.string num] w fun e w' => e = .returned (.bool true) ∧ Below w.heap.size w w') (hfd : ∀ w, Calls Tryz.prog 10 #[.string den] w fun e w' => e = .returned (.bool true) ∧ Below w.heap.size w w') (hfy : ∀ w, Calls Tryz.prog 10 #[.string d.s] w fun e w' => e = .returned (.bool true) ∧ Below w.heap.size w w') (hN : ∀ w, Calls Tryz.prog 12 #[.bool neg, .string num, .string den] w fun e w' => e = .returned (.tuple #[.agg #[.bool r1.g, .string r1.s, .string r1.t], .int .i64 0]) ∧ Below w.heap.size w w') (hrN : ∀ w, Calls Tryz.prog 13 #[.bool neg, .string num, .string den] w fun e w' => e = .returned (.tuple #[.agg #[.bool r1.g, .string r1.s, .string r1.t], .int .i64 0]) ∧ Below w.heap.size w w') (hO : ∀ w, Calls Tryz.prog 14 #[.agg #[.bool d.g, .string d.s, .int .i64 d.x]] w fun e w' => e = .returned (.tuple #[.agg #[.bool r2.g, .string r2.s, .string r2.t], .int .i64 4]) ∧ Below w.heap.size w w') (hrO : ∀ w, Calls Tryz.prog 15 #[.agg #[.bool d.g, .string d.s, .int .i64 d.x]] w fun e w' => e = .returned (.tuple #[.agg #[.bool r2.g, .string r2.s, .string r2.t], .int .i64 4]) ∧ Below w.heap.size w w') (hD : ∀ c : Bool, (c = true ↔ b = true) → ∀ w, Calls Tryz.prog 16 #[.agg #[.bool a.g, .string a.s, .string a.t]] w fun e w' => e = .returned (.tuple #[.agg #[.bool y.g, .string y.s, .int .i64 y.x], .bool c]) ∧ Below w.heap.size w w') (hrD : ∀ c : Bool, (c = true ↔ b = true) → ∀ w, Calls Tryz.prog 17 #[.agg #[.bool a.g, .string a.s, .string a.t]] w fun e w' => e = .returned (.tuple #[.agg #[.bool y.g, .string y.s, .int .i64 y.x], .bool c]) ∧ Below w.heap.size w w') (hM : ∀ c : Bool, (c = true ↔ m = true) → ∀ w, Calls Tryz.prog 18 #[.agg #[.bool a.g, .string a.s, .string a.t]] w fun e w' => e = .returned (.bool c) ∧ Below w.heap.size w w') (hrM : ∀ c : Bool, (c = true ↔ m = true) → ∀ w, Calls Tryz.prog 19 #[.agg #[.bool a.g, .string a.s, .string a.t]] w fun e w' => e = .returned (.bool c) ∧ Below w.heap.size w w') (hW : ∀ w, Calls Tryz.prog 20 #[.int .i64 n] w fun e w' => e = .returned (qv (n : Rat)) ∧ Below w.heap.size w w') (hrW : ∀ w, Calls Tryz.prog 21 #[.int .i64 n] w fun e w' => e = .returned (qv (n : Rat)) ∧ Below w.heap.size w w') : Calls Tryz.prog 3 #[.agg #[.bool a.g, .string a.s, .string a.t], .bool neg, .string num, .string den, .int .i64 n, .agg #[.bool d.g, .string d.s, .int .i64 d.x]] w fun e w' => e = .returned (.bool true) ∧ Below w.heap.size w w' := by
  obtain ⟨b1, i1⟩ := bex (b = true)
  obtain ⟨b2, i2⟩ := bex (m = true)
  letI : Env := mkEnv glT [.bool a.g, .string a.s, .string a.t, .bool neg, .string num, .string den, .int .i64 n, .bool d.g, .string d.s, .int .i64 d.x, .bool r1.g, .string r1.s, .string r1.t, .bool r1.g, .string r1.s, .string r1.t, .bool r2.g, .string r2.s, .string r2.t, .bool r2.g, .string r2.s, .string r2.t, .bool y.g, .string y.s, .int .i64 y.x, .bool y.g, .string y.s, .int .i64 y.x, .bool (qG (n : Rat)), .string (natS (qN (n : Rat))), .string (natS (qD (n : Rat))), .bool (qG (n : Rat)), .string (natS (qN (n : Rat))), .string (natS (qD (n : Rat)))] rfl
  have hops : OpsT Tryz.prog (@Know.ops (RatioMakes_g04_k b1 b2)) := ⟨optR_eql_i (a := r1) (b := r1) rfl rfl ⟨fun _ => rfl, fun _ => rfl⟩,
    optR_eql_i (a := qr (n : Rat)) (b := qr (n : Rat)) rfl rfl ⟨fun _ => rfl, fun _ => rfl⟩,
    optR_eql_i (a := r2) (b := r2) rfl rfl ⟨fun _ => rfl, fun _ => rfl⟩,
    optY_eql_s (a := y) rfl rfl,
    trivial⟩
  have hcalls : CallsT Tryz.prog (@Know.calls (RatioMakes_g04_k b1 b2)) := ⟨callt rfl rfl fun w hG => hsm w,
    callt rfl rfl fun w hG => hfn w,
    callt rfl rfl fun w hG => hfd w,
    callt rfl rfl fun w hG => hfy w,
    callt rfl rfl fun w hG => hN w,
    callt rfl rfl fun w hG => hrN w,
    callt rfl rfl fun w hG => hO w,
    callt rfl rfl fun w hG => hrO w,
    callt rfl rfl fun w hG => hD _ i1 w,
    callt rfl rfl fun w hG => hrD _ i1 w,
    callt rfl rfl fun w hG => hM _ i2 w,
    callt rfl rfl fun w hG => hrM _ i2 w,
    callt rfl rfl fun w hG => hW w,
    callt rfl rfl fun w hG => hrW w,
    callt rfl rfl fun w hG => lives4_c w hG,
    trivial⟩
  have fin : ∀ v, @comes (RatioMakes_g04_k b1 b2) Tryz.prog glT 3000 RatioMakes_g04_f RatioMakes_g04_a = some v → ground v = true → Ending.returned (gval v) = .returned (.bool true) → Calls Tryz.prog 3 #[.agg #[.bool a.g, .string a.s, .string a.t], .bool neg, .string num, .string den, .int .i64 n, .agg #[.bool d.g, .string d.s, .int .i64 d.x]] w fun e w' => e = .returned (.bool true) ∧ Below w.heap.size w w' := fun v h1 h2 h3 => (@sym_ok _ (RatioMakes_g04_k b1 b2) _ (@KnowOk.of _ (RatioMakes_g04_k b1 b2) _ hops hcalls) (by kernel_rfl) _ _ _ _ h1 rfl h2 _ hG).mono fun e w' h => ⟨h.1.trans h3, h.2⟩
  clear hops hcalls
  cases b1 with
  | true =>
    have h1 : b = true := i1.1 rfl
    cases b2 with
    | true =>
      have h2 : m = true := i2.1 rfl
      exact fin _ (RatioMakes_g04_r1) rfl rfl
    | false =>
      have h2 : ¬ (m = true) := fun c => Bool.false_ne_true (i2.2 c)
      exact fin _ (RatioMakes_g04_r2) rfl rfl
  | false =>
    have h1 : ¬ (b = true) := fun c => Bool.false_ne_true (i1.2 c)
    cases b2 with
    | true =>
      have h2 : m = true := i2.1 rfl
      exact fin _ (RatioMakes_g04_r3) rfl rfl
    | false =>
      have h2 : ¬ (m = true) := fun c => Bool.false_ne_true (i2.2 c)
      exact fin _ (RatioMakes_g04_r4) rfl rfl

@[reducible] def RatioMakes_g20_f : FuncId := 3
@[reducible] def RatioMakes_g20_a : List AV := [.agg [.sym 0, .sym 1, .sym 2], .sym 3, .sym 4, .sym 5, .sym 6, .agg [.sym 7, .sym 8, .sym 9]]
@[reducible] noncomputable def RatioMakes_g20_k (b1 b2 : Bool) : Know := ⟨[([0, 11, 24], [.agg [.sym 10, .sym 11, .sym 12], .agg [.sym 13, .sym 14, .sym 15]], .lit (.bool true)),
  ([0, 11, 24], [.agg [.sym 28, .sym 29, .sym 30], .agg [.sym 31, .sym 32, .sym 33]], .lit (.bool true)),
  ([0, 11, 24], [.agg [.sym 16, .sym 17, .sym 18], .agg [.sym 19, .sym 20, .sym 21]], .lit (.bool true)),
  ([0, 11, 26], [.agg [.sym 22, .sym 23, .sym 24], .agg [.sym 25, .sym 26, .sym 27]], .lit (.bool true))],
  [(9, [.agg [.sym 0, .sym 1, .sym 2]], .lit (.bool true)),
  (10, [.sym 4], .lit (.bool true)),
  (10, [.sym 5], .lit (.bool true)),
  (10, [.sym 8], .lit (.bool true)),
  (12, [.sym 3, .sym 4, .sym 5], .tup [.agg [.sym 10, .sym 11, .sym 12], .lit (.int .i64 2)]),
  (13, [.sym 3, .sym 4, .sym 5], .tup [.agg [.sym 13, .sym 14, .sym 15], .lit (.int .i64 2)]),
  (14, [.agg [.sym 7, .sym 8, .sym 9]], .tup [.agg [.sym 16, .sym 17, .sym 18], .lit (.int .i64 0)]),
  (15, [.agg [.sym 7, .sym 8, .sym 9]], .tup [.agg [.sym 19, .sym 20, .sym 21], .lit (.int .i64 0)]),
  (16, [.agg [.sym 0, .sym 1, .sym 2]], .tup [.agg [.sym 22, .sym 23, .sym 24], .lit (.bool b1)]),
  (17, [.agg [.sym 0, .sym 1, .sym 2]], .tup [.agg [.sym 25, .sym 26, .sym 27], .lit (.bool b1)]),
  (18, [.agg [.sym 0, .sym 1, .sym 2]], .lit (.bool b2)),
  (19, [.agg [.sym 0, .sym 1, .sym 2]], .lit (.bool b2)),
  (20, [.sym 6], .agg [.sym 28, .sym 29, .sym 30]),
  (21, [.sym 6], .agg [.sym 31, .sym 32, .sym 33]),
  (11, [], .lit (.bool true))]⟩
theorem RatioMakes_g20_r1 : @comes (RatioMakes_g20_k true true) Tryz.prog glT 3000 RatioMakes_g20_f RatioMakes_g20_a = some (.lit (.bool true)) := by kernel_rfl
theorem RatioMakes_g20_r2 : @comes (RatioMakes_g20_k true false) Tryz.prog glT 3000 RatioMakes_g20_f RatioMakes_g20_a = some (.lit (.bool true)) := by kernel_rfl
theorem RatioMakes_g20_r3 : @comes (RatioMakes_g20_k false true) Tryz.prog glT 3000 RatioMakes_g20_f RatioMakes_g20_a = some (.lit (.bool true)) := by kernel_rfl
theorem RatioMakes_g20_r4 : @comes (RatioMakes_g20_k false false) Tryz.prog glT 3000 RatioMakes_g20_f RatioMakes_g20_a = some (.lit (.bool true)) := by kernel_rfl

set_option maxRecDepth 100000 in
set_option maxHeartbeats 4000000 in
theorem RatioMakes_g20 (a : Rx) (neg : Bool) (num den : ByteArray) (n : Int) (d : Dx) (r1 r2 : Rx) (y : Dx) (m b : Bool) (w : World) (hG : Globs glT w) (hsm : ∀ w, Calls Tryz.prog 9 #[.agg #[.bool a.g, .string a.s, .string a.t]] w fun e w' => e = .returned (.bool true) ∧ Below w.heap.size w w') (hfn : ∀ w, Calls Tryz.prog 10 #[.string num] w fun e w' => e = .returned (.bool true) ∧ Below w.heap.size w w') (hfd : ∀ w, Calls Tryz.prog 10 #[.string den] w fun e w' => e = .returned (.bool true) ∧ Below w.heap.size w w') (hfy : ∀ w, Calls Tryz.prog 10 #[.string d.s] w fun e w' => e = .returned (.bool true) ∧ Below w.heap.size w w') (hN : ∀ w, Calls Tryz.prog 12 #[.bool neg, .string num, .string den] w fun e w' => e = .returned (.tuple #[.agg #[.bool r1.g, .string r1.s, .string r1.t], .int .i64 2]) ∧ Below w.heap.size w w') (hrN : ∀ w, Calls Tryz.prog 13 #[.bool neg, .string num, .string den] w fun e w' => e = .returned (.tuple #[.agg #[.bool r1.g, .string r1.s, .string r1.t], .int .i64 2]) ∧ Below w.heap.size w w') (hO : ∀ w, Calls Tryz.prog 14 #[.agg #[.bool d.g, .string d.s, .int .i64 d.x]] w fun e w' => e = .returned (.tuple #[.agg #[.bool r2.g, .string r2.s, .string r2.t], .int .i64 0]) ∧ Below w.heap.size w w') (hrO : ∀ w, Calls Tryz.prog 15 #[.agg #[.bool d.g, .string d.s, .int .i64 d.x]] w fun e w' => e = .returned (.tuple #[.agg #[.bool r2.g, .string r2.s, .string r2.t], .int .i64 0]) ∧ Below w.heap.size w w') (hD : ∀ c : Bool, (c = true ↔ b = true) → ∀ w, Calls Tryz.prog 16 #[.agg #[.bool a.g, .string a.s, .string a.t]] w fun e w' => e = .returned (.tuple #[.agg #[.bool y.g, .string y.s, .int .i64 y.x], .bool c]) ∧ Below w.heap.size w w') (hrD : ∀ c : Bool, (c = true ↔ b = true) → ∀ w, Calls Tryz.prog 17 #[.agg #[.bool a.g, .string a.s, .string a.t]] w fun e w' => e = .returned (.tuple #[.agg #[.bool y.g, .string y.s, .int .i64 y.x], .bool c]) ∧ Below w.heap.size w w') (hM : ∀ c : Bool, (c = true ↔ m = true) → ∀ w, Calls Tryz.prog 18 #[.agg #[.bool a.g, .string a.s, .string a.t]] w fun e w' => e = .returned (.bool c) ∧ Below w.heap.size w w') (hrM : ∀ c : Bool, (c = true ↔ m = true) → ∀ w, Calls Tryz.prog 19 #[.agg #[.bool a.g, .string a.s, .string a.t]] w fun e w' => e = .returned (.bool c) ∧ Below w.heap.size w w') (hW : ∀ w, Calls Tryz.prog 20 #[.int .i64 n] w fun e w' => e = .returned (qv (n : Rat)) ∧ Below w.heap.size w w') (hrW : ∀ w, Calls Tryz.prog 21 #[.int .i64 n] w fun e w' => e = .returned (qv (n : Rat)) ∧ Below w.heap.size w w') : Calls Tryz.prog 3 #[.agg #[.bool a.g, .string a.s, .string a.t], .bool neg, .string num, .string den, .int .i64 n, .agg #[.bool d.g, .string d.s, .int .i64 d.x]] w fun e w' => e = .returned (.bool true) ∧ Below w.heap.size w w' := by
  obtain ⟨b1, i1⟩ := bex (b = true)
  obtain ⟨b2, i2⟩ := bex (m = true)
  letI : Env := mkEnv glT [.bool a.g, .string a.s, .string a.t, .bool neg, .string num, .string den, .int .i64 n, .bool d.g, .string d.s, .int .i64 d.x, .bool r1.g, .string r1.s, .string r1.t, .bool r1.g, .string r1.s, .string r1.t, .bool r2.g, .string r2.s, .string r2.t, .bool r2.g, .string r2.s, .string r2.t, .bool y.g, .string y.s, .int .i64 y.x, .bool y.g, .string y.s, .int .i64 y.x, .bool (qG (n : Rat)), .string (natS (qN (n : Rat))), .string (natS (qD (n : Rat))), .bool (qG (n : Rat)), .string (natS (qN (n : Rat))), .string (natS (qD (n : Rat)))] rfl
  have hops : OpsT Tryz.prog (@Know.ops (RatioMakes_g20_k b1 b2)) := ⟨optR_eql_i (a := r1) (b := r1) rfl rfl ⟨fun _ => rfl, fun _ => rfl⟩,
    optR_eql_i (a := qr (n : Rat)) (b := qr (n : Rat)) rfl rfl ⟨fun _ => rfl, fun _ => rfl⟩,
    optR_eql_i (a := r2) (b := r2) rfl rfl ⟨fun _ => rfl, fun _ => rfl⟩,
    optY_eql_s (a := y) rfl rfl,
    trivial⟩
  have hcalls : CallsT Tryz.prog (@Know.calls (RatioMakes_g20_k b1 b2)) := ⟨callt rfl rfl fun w hG => hsm w,
    callt rfl rfl fun w hG => hfn w,
    callt rfl rfl fun w hG => hfd w,
    callt rfl rfl fun w hG => hfy w,
    callt rfl rfl fun w hG => hN w,
    callt rfl rfl fun w hG => hrN w,
    callt rfl rfl fun w hG => hO w,
    callt rfl rfl fun w hG => hrO w,
    callt rfl rfl fun w hG => hD _ i1 w,
    callt rfl rfl fun w hG => hrD _ i1 w,
    callt rfl rfl fun w hG => hM _ i2 w,
    callt rfl rfl fun w hG => hrM _ i2 w,
    callt rfl rfl fun w hG => hW w,
    callt rfl rfl fun w hG => hrW w,
    callt rfl rfl fun w hG => lives4_c w hG,
    trivial⟩
  have fin : ∀ v, @comes (RatioMakes_g20_k b1 b2) Tryz.prog glT 3000 RatioMakes_g20_f RatioMakes_g20_a = some v → ground v = true → Ending.returned (gval v) = .returned (.bool true) → Calls Tryz.prog 3 #[.agg #[.bool a.g, .string a.s, .string a.t], .bool neg, .string num, .string den, .int .i64 n, .agg #[.bool d.g, .string d.s, .int .i64 d.x]] w fun e w' => e = .returned (.bool true) ∧ Below w.heap.size w w' := fun v h1 h2 h3 => (@sym_ok _ (RatioMakes_g20_k b1 b2) _ (@KnowOk.of _ (RatioMakes_g20_k b1 b2) _ hops hcalls) (by kernel_rfl) _ _ _ _ h1 rfl h2 _ hG).mono fun e w' h => ⟨h.1.trans h3, h.2⟩
  clear hops hcalls
  cases b1 with
  | true =>
    have h1 : b = true := i1.1 rfl
    cases b2 with
    | true =>
      have h2 : m = true := i2.1 rfl
      exact fin _ (RatioMakes_g20_r1) rfl rfl
    | false =>
      have h2 : ¬ (m = true) := fun c => Bool.false_ne_true (i2.2 c)
      exact fin _ (RatioMakes_g20_r2) rfl rfl
  | false =>
    have h1 : ¬ (b = true) := fun c => Bool.false_ne_true (i1.2 c)
    cases b2 with
    | true =>
      have h2 : m = true := i2.1 rfl
      exact fin _ (RatioMakes_g20_r3) rfl rfl
    | false =>
      have h2 : ¬ (m = true) := fun c => Bool.false_ne_true (i2.2 c)
      exact fin _ (RatioMakes_g20_r4) rfl rfl

@[reducible] def RatioMakes_g22_f : FuncId := 3
@[reducible] def RatioMakes_g22_a : List AV := [.agg [.sym 0, .sym 1, .sym 2], .sym 3, .sym 4, .sym 5, .sym 6, .agg [.sym 7, .sym 8, .sym 9]]
@[reducible] noncomputable def RatioMakes_g22_k (b1 b2 : Bool) : Know := ⟨[([0, 11, 24], [.agg [.sym 10, .sym 11, .sym 12], .agg [.sym 13, .sym 14, .sym 15]], .lit (.bool true)),
  ([0, 11, 24], [.agg [.sym 28, .sym 29, .sym 30], .agg [.sym 31, .sym 32, .sym 33]], .lit (.bool true)),
  ([0, 11, 24], [.agg [.sym 16, .sym 17, .sym 18], .agg [.sym 19, .sym 20, .sym 21]], .lit (.bool true)),
  ([0, 11, 26], [.agg [.sym 22, .sym 23, .sym 24], .agg [.sym 25, .sym 26, .sym 27]], .lit (.bool true))],
  [(9, [.agg [.sym 0, .sym 1, .sym 2]], .lit (.bool true)),
  (10, [.sym 4], .lit (.bool true)),
  (10, [.sym 5], .lit (.bool true)),
  (10, [.sym 8], .lit (.bool true)),
  (12, [.sym 3, .sym 4, .sym 5], .tup [.agg [.sym 10, .sym 11, .sym 12], .lit (.int .i64 2)]),
  (13, [.sym 3, .sym 4, .sym 5], .tup [.agg [.sym 13, .sym 14, .sym 15], .lit (.int .i64 2)]),
  (14, [.agg [.sym 7, .sym 8, .sym 9]], .tup [.agg [.sym 16, .sym 17, .sym 18], .lit (.int .i64 2)]),
  (15, [.agg [.sym 7, .sym 8, .sym 9]], .tup [.agg [.sym 19, .sym 20, .sym 21], .lit (.int .i64 2)]),
  (16, [.agg [.sym 0, .sym 1, .sym 2]], .tup [.agg [.sym 22, .sym 23, .sym 24], .lit (.bool b1)]),
  (17, [.agg [.sym 0, .sym 1, .sym 2]], .tup [.agg [.sym 25, .sym 26, .sym 27], .lit (.bool b1)]),
  (18, [.agg [.sym 0, .sym 1, .sym 2]], .lit (.bool b2)),
  (19, [.agg [.sym 0, .sym 1, .sym 2]], .lit (.bool b2)),
  (20, [.sym 6], .agg [.sym 28, .sym 29, .sym 30]),
  (21, [.sym 6], .agg [.sym 31, .sym 32, .sym 33]),
  (11, [], .lit (.bool true))]⟩
theorem RatioMakes_g22_r1 : @comes (RatioMakes_g22_k true true) Tryz.prog glT 3000 RatioMakes_g22_f RatioMakes_g22_a = some (.lit (.bool true)) := by kernel_rfl
theorem RatioMakes_g22_r2 : @comes (RatioMakes_g22_k true false) Tryz.prog glT 3000 RatioMakes_g22_f RatioMakes_g22_a = some (.lit (.bool true)) := by kernel_rfl
theorem RatioMakes_g22_r3 : @comes (RatioMakes_g22_k false true) Tryz.prog glT 3000 RatioMakes_g22_f RatioMakes_g22_a = some (.lit (.bool true)) := by kernel_rfl
theorem RatioMakes_g22_r4 : @comes (RatioMakes_g22_k false false) Tryz.prog glT 3000 RatioMakes_g22_f RatioMakes_g22_a = some (.lit (.bool true)) := by kernel_rfl

set_option maxRecDepth 100000 in
set_option maxHeartbeats 4000000 in
theorem RatioMakes_g22 (a : Rx) (neg : Bool) (num den : ByteArray) (n : Int) (d : Dx) (r1 r2 : Rx) (y : Dx) (m b : Bool) (w : World) (hG : Globs glT w) (hsm : ∀ w, Calls Tryz.prog 9 #[.agg #[.bool a.g, .string a.s, .string a.t]] w fun e w' => e = .returned (.bool true) ∧ Below w.heap.size w w') (hfn : ∀ w, Calls Tryz.prog 10 #[.string num] w fun e w' => e = .returned (.bool true) ∧ Below w.heap.size w w') (hfd : ∀ w, Calls Tryz.prog 10 #[.string den] w fun e w' => e = .returned (.bool true) ∧ Below w.heap.size w w') (hfy : ∀ w, Calls Tryz.prog 10 #[.string d.s] w fun e w' => e = .returned (.bool true) ∧ Below w.heap.size w w') (hN : ∀ w, Calls Tryz.prog 12 #[.bool neg, .string num, .string den] w fun e w' => e = .returned (.tuple #[.agg #[.bool r1.g, .string r1.s, .string r1.t], .int .i64 2]) ∧ Below w.heap.size w w') (hrN : ∀ w, Calls Tryz.prog 13 #[.bool neg, .string num, .string den] w fun e w' => e = .returned (.tuple #[.agg #[.bool r1.g, .string r1.s, .string r1.t], .int .i64 2]) ∧ Below w.heap.size w w') (hO : ∀ w, Calls Tryz.prog 14 #[.agg #[.bool d.g, .string d.s, .int .i64 d.x]] w fun e w' => e = .returned (.tuple #[.agg #[.bool r2.g, .string r2.s, .string r2.t], .int .i64 2]) ∧ Below w.heap.size w w') (hrO : ∀ w, Calls Tryz.prog 15 #[.agg #[.bool d.g, .string d.s, .int .i64 d.x]] w fun e w' => e = .returned (.tuple #[.agg #[.bool r2.g, .string r2.s, .string r2.t], .int .i64 2]) ∧ Below w.heap.size w w') (hD : ∀ c : Bool, (c = true ↔ b = true) → ∀ w, Calls Tryz.prog 16 #[.agg #[.bool a.g, .string a.s, .string a.t]] w fun e w' => e = .returned (.tuple #[.agg #[.bool y.g, .string y.s, .int .i64 y.x], .bool c]) ∧ Below w.heap.size w w') (hrD : ∀ c : Bool, (c = true ↔ b = true) → ∀ w, Calls Tryz.prog 17 #[.agg #[.bool a.g, .string a.s, .string a.t]] w fun e w' => e = .returned (.tuple #[.agg #[.bool y.g, .string y.s, .int .i64 y.x], .bool c]) ∧ Below w.heap.size w w') (hM : ∀ c : Bool, (c = true ↔ m = true) → ∀ w, Calls Tryz.prog 18 #[.agg #[.bool a.g, .string a.s, .string a.t]] w fun e w' => e = .returned (.bool c) ∧ Below w.heap.size w w') (hrM : ∀ c : Bool, (c = true ↔ m = true) → ∀ w, Calls Tryz.prog 19 #[.agg #[.bool a.g, .string a.s, .string a.t]] w fun e w' => e = .returned (.bool c) ∧ Below w.heap.size w w') (hW : ∀ w, Calls Tryz.prog 20 #[.int .i64 n] w fun e w' => e = .returned (qv (n : Rat)) ∧ Below w.heap.size w w') (hrW : ∀ w, Calls Tryz.prog 21 #[.int .i64 n] w fun e w' => e = .returned (qv (n : Rat)) ∧ Below w.heap.size w w') : Calls Tryz.prog 3 #[.agg #[.bool a.g, .string a.s, .string a.t], .bool neg, .string num, .string den, .int .i64 n, .agg #[.bool d.g, .string d.s, .int .i64 d.x]] w fun e w' => e = .returned (.bool true) ∧ Below w.heap.size w w' := by
  obtain ⟨b1, i1⟩ := bex (b = true)
  obtain ⟨b2, i2⟩ := bex (m = true)
  letI : Env := mkEnv glT [.bool a.g, .string a.s, .string a.t, .bool neg, .string num, .string den, .int .i64 n, .bool d.g, .string d.s, .int .i64 d.x, .bool r1.g, .string r1.s, .string r1.t, .bool r1.g, .string r1.s, .string r1.t, .bool r2.g, .string r2.s, .string r2.t, .bool r2.g, .string r2.s, .string r2.t, .bool y.g, .string y.s, .int .i64 y.x, .bool y.g, .string y.s, .int .i64 y.x, .bool (qG (n : Rat)), .string (natS (qN (n : Rat))), .string (natS (qD (n : Rat))), .bool (qG (n : Rat)), .string (natS (qN (n : Rat))), .string (natS (qD (n : Rat)))] rfl
  have hops : OpsT Tryz.prog (@Know.ops (RatioMakes_g22_k b1 b2)) := ⟨optR_eql_i (a := r1) (b := r1) rfl rfl ⟨fun _ => rfl, fun _ => rfl⟩,
    optR_eql_i (a := qr (n : Rat)) (b := qr (n : Rat)) rfl rfl ⟨fun _ => rfl, fun _ => rfl⟩,
    optR_eql_i (a := r2) (b := r2) rfl rfl ⟨fun _ => rfl, fun _ => rfl⟩,
    optY_eql_s (a := y) rfl rfl,
    trivial⟩
  have hcalls : CallsT Tryz.prog (@Know.calls (RatioMakes_g22_k b1 b2)) := ⟨callt rfl rfl fun w hG => hsm w,
    callt rfl rfl fun w hG => hfn w,
    callt rfl rfl fun w hG => hfd w,
    callt rfl rfl fun w hG => hfy w,
    callt rfl rfl fun w hG => hN w,
    callt rfl rfl fun w hG => hrN w,
    callt rfl rfl fun w hG => hO w,
    callt rfl rfl fun w hG => hrO w,
    callt rfl rfl fun w hG => hD _ i1 w,
    callt rfl rfl fun w hG => hrD _ i1 w,
    callt rfl rfl fun w hG => hM _ i2 w,
    callt rfl rfl fun w hG => hrM _ i2 w,
    callt rfl rfl fun w hG => hW w,
    callt rfl rfl fun w hG => hrW w,
    callt rfl rfl fun w hG => lives4_c w hG,
    trivial⟩
  have fin : ∀ v, @comes (RatioMakes_g22_k b1 b2) Tryz.prog glT 3000 RatioMakes_g22_f RatioMakes_g22_a = some v → ground v = true → Ending.returned (gval v) = .returned (.bool true) → Calls Tryz.prog 3 #[.agg #[.bool a.g, .string a.s, .string a.t], .bool neg, .string num, .string den, .int .i64 n, .agg #[.bool d.g, .string d.s, .int .i64 d.x]] w fun e w' => e = .returned (.bool true) ∧ Below w.heap.size w w' := fun v h1 h2 h3 => (@sym_ok _ (RatioMakes_g22_k b1 b2) _ (@KnowOk.of _ (RatioMakes_g22_k b1 b2) _ hops hcalls) (by kernel_rfl) _ _ _ _ h1 rfl h2 _ hG).mono fun e w' h => ⟨h.1.trans h3, h.2⟩
  clear hops hcalls
  cases b1 with
  | true =>
    have h1 : b = true := i1.1 rfl
    cases b2 with
    | true =>
      have h2 : m = true := i2.1 rfl
      exact fin _ (RatioMakes_g22_r1) rfl rfl
    | false =>
      have h2 : ¬ (m = true) := fun c => Bool.false_ne_true (i2.2 c)
      exact fin _ (RatioMakes_g22_r2) rfl rfl
  | false =>
    have h1 : ¬ (b = true) := fun c => Bool.false_ne_true (i1.2 c)
    cases b2 with
    | true =>
      have h2 : m = true := i2.1 rfl
      exact fin _ (RatioMakes_g22_r3) rfl rfl
    | false =>
      have h2 : ¬ (m = true) := fun c => Bool.false_ne_true (i2.2 c)
      exact fin _ (RatioMakes_g22_r4) rfl rfl

@[reducible] def RatioMakes_g24_f : FuncId := 3
@[reducible] def RatioMakes_g24_a : List AV := [.agg [.sym 0, .sym 1, .sym 2], .sym 3, .sym 4, .sym 5, .sym 6, .agg [.sym 7, .sym 8, .sym 9]]
@[reducible] noncomputable def RatioMakes_g24_k (b1 b2 : Bool) : Know := ⟨[([0, 11, 24], [.agg [.sym 10, .sym 11, .sym 12], .agg [.sym 13, .sym 14, .sym 15]], .lit (.bool true)),
  ([0, 11, 24], [.agg [.sym 28, .sym 29, .sym 30], .agg [.sym 31, .sym 32, .sym 33]], .lit (.bool true)),
  ([0, 11, 24], [.agg [.sym 16, .sym 17, .sym 18], .agg [.sym 19, .sym 20, .sym 21]], .lit (.bool true)),
  ([0, 11, 26], [.agg [.sym 22, .sym 23, .sym 24], .agg [.sym 25, .sym 26, .sym 27]], .lit (.bool true))],
  [(9, [.agg [.sym 0, .sym 1, .sym 2]], .lit (.bool true)),
  (10, [.sym 4], .lit (.bool true)),
  (10, [.sym 5], .lit (.bool true)),
  (10, [.sym 8], .lit (.bool true)),
  (12, [.sym 3, .sym 4, .sym 5], .tup [.agg [.sym 10, .sym 11, .sym 12], .lit (.int .i64 2)]),
  (13, [.sym 3, .sym 4, .sym 5], .tup [.agg [.sym 13, .sym 14, .sym 15], .lit (.int .i64 2)]),
  (14, [.agg [.sym 7, .sym 8, .sym 9]], .tup [.agg [.sym 16, .sym 17, .sym 18], .lit (.int .i64 4)]),
  (15, [.agg [.sym 7, .sym 8, .sym 9]], .tup [.agg [.sym 19, .sym 20, .sym 21], .lit (.int .i64 4)]),
  (16, [.agg [.sym 0, .sym 1, .sym 2]], .tup [.agg [.sym 22, .sym 23, .sym 24], .lit (.bool b1)]),
  (17, [.agg [.sym 0, .sym 1, .sym 2]], .tup [.agg [.sym 25, .sym 26, .sym 27], .lit (.bool b1)]),
  (18, [.agg [.sym 0, .sym 1, .sym 2]], .lit (.bool b2)),
  (19, [.agg [.sym 0, .sym 1, .sym 2]], .lit (.bool b2)),
  (20, [.sym 6], .agg [.sym 28, .sym 29, .sym 30]),
  (21, [.sym 6], .agg [.sym 31, .sym 32, .sym 33]),
  (11, [], .lit (.bool true))]⟩
theorem RatioMakes_g24_r1 : @comes (RatioMakes_g24_k true true) Tryz.prog glT 3000 RatioMakes_g24_f RatioMakes_g24_a = some (.lit (.bool true)) := by kernel_rfl
theorem RatioMakes_g24_r2 : @comes (RatioMakes_g24_k true false) Tryz.prog glT 3000 RatioMakes_g24_f RatioMakes_g24_a = some (.lit (.bool true)) := by kernel_rfl
theorem RatioMakes_g24_r3 : @comes (RatioMakes_g24_k false true) Tryz.prog glT 3000 RatioMakes_g24_f RatioMakes_g24_a = some (.lit (.bool true)) := by kernel_rfl
theorem RatioMakes_g24_r4 : @comes (RatioMakes_g24_k false false) Tryz.prog glT 3000 RatioMakes_g24_f RatioMakes_g24_a = some (.lit (.bool true)) := by kernel_rfl

set_option maxRecDepth 100000 in
set_option maxHeartbeats 4000000 in
theorem RatioMakes_g24 (a : Rx) (neg : Bool) (num den : ByteArray) (n : Int) (d : Dx) (r1 r2 : Rx) (y : Dx) (m b : Bool) (w : World) (hG : Globs glT w) (hsm : ∀ w, Calls Tryz.prog 9 #[.agg #[.bool a.g, .string a.s, .string a.t]] w fun e w' => e = .returned (.bool true) ∧ Below w.heap.size w w') (hfn : ∀ w, Calls Tryz.prog 10 #[.string num] w fun e w' => e = .returned (.bool true) ∧ Below w.heap.size w w') (hfd : ∀ w, Calls Tryz.prog 10 #[.string den] w fun e w' => e = .returned (.bool true) ∧ Below w.heap.size w w') (hfy : ∀ w, Calls Tryz.prog 10 #[.string d.s] w fun e w' => e = .returned (.bool true) ∧ Below w.heap.size w w') (hN : ∀ w, Calls Tryz.prog 12 #[.bool neg, .string num, .string den] w fun e w' => e = .returned (.tuple #[.agg #[.bool r1.g, .string r1.s, .string r1.t], .int .i64 2]) ∧ Below w.heap.size w w') (hrN : ∀ w, Calls Tryz.prog 13 #[.bool neg, .string num, .string den] w fun e w' => e = .returned (.tuple #[.agg #[.bool r1.g, .string r1.s, .string r1.t], .int .i64 2]) ∧ Below w.heap.size w w') (hO : ∀ w, Calls Tryz.prog 14 #[.agg #[.bool d.g, .string d.s, .int .i64 d.x]] w fun e w' => e = .returned (.tuple #[.agg #[.bool r2.g, .string r2.s, .string r2.t], .int .i64 4]) ∧ Below w.heap.size w w') (hrO : ∀ w, Calls Tryz.prog 15 #[.agg #[.bool d.g, .string d.s, .int .i64 d.x]] w fun e w' => e = .returned (.tuple #[.agg #[.bool r2.g, .string r2.s, .string r2.t], .int .i64 4]) ∧ Below w.heap.size w w') (hD : ∀ c : Bool, (c = true ↔ b = true) → ∀ w, Calls Tryz.prog 16 #[.agg #[.bool a.g, .string a.s, .string a.t]] w fun e w' => e = .returned (.tuple #[.agg #[.bool y.g, .string y.s, .int .i64 y.x], .bool c]) ∧ Below w.heap.size w w') (hrD : ∀ c : Bool, (c = true ↔ b = true) → ∀ w, Calls Tryz.prog 17 #[.agg #[.bool a.g, .string a.s, .string a.t]] w fun e w' => e = .returned (.tuple #[.agg #[.bool y.g, .string y.s, .int .i64 y.x], .bool c]) ∧ Below w.heap.size w w') (hM : ∀ c : Bool, (c = true ↔ m = true) → ∀ w, Calls Tryz.prog 18 #[.agg #[.bool a.g, .string a.s, .string a.t]] w fun e w' => e = .returned (.bool c) ∧ Below w.heap.size w w') (hrM : ∀ c : Bool, (c = true ↔ m = true) → ∀ w, Calls Tryz.prog 19 #[.agg #[.bool a.g, .string a.s, .string a.t]] w fun e w' => e = .returned (.bool c) ∧ Below w.heap.size w w') (hW : ∀ w, Calls Tryz.prog 20 #[.int .i64 n] w fun e w' => e = .returned (qv (n : Rat)) ∧ Below w.heap.size w w') (hrW : ∀ w, Calls Tryz.prog 21 #[.int .i64 n] w fun e w' => e = .returned (qv (n : Rat)) ∧ Below w.heap.size w w') : Calls Tryz.prog 3 #[.agg #[.bool a.g, .string a.s, .string a.t], .bool neg, .string num, .string den, .int .i64 n, .agg #[.bool d.g, .string d.s, .int .i64 d.x]] w fun e w' => e = .returned (.bool true) ∧ Below w.heap.size w w' := by
  obtain ⟨b1, i1⟩ := bex (b = true)
  obtain ⟨b2, i2⟩ := bex (m = true)
  letI : Env := mkEnv glT [.bool a.g, .string a.s, .string a.t, .bool neg, .string num, .string den, .int .i64 n, .bool d.g, .string d.s, .int .i64 d.x, .bool r1.g, .string r1.s, .string r1.t, .bool r1.g, .string r1.s, .string r1.t, .bool r2.g, .string r2.s, .string r2.t, .bool r2.g, .string r2.s, .string r2.t, .bool y.g, .string y.s, .int .i64 y.x, .bool y.g, .string y.s, .int .i64 y.x, .bool (qG (n : Rat)), .string (natS (qN (n : Rat))), .string (natS (qD (n : Rat))), .bool (qG (n : Rat)), .string (natS (qN (n : Rat))), .string (natS (qD (n : Rat)))] rfl
  have hops : OpsT Tryz.prog (@Know.ops (RatioMakes_g24_k b1 b2)) := ⟨optR_eql_i (a := r1) (b := r1) rfl rfl ⟨fun _ => rfl, fun _ => rfl⟩,
    optR_eql_i (a := qr (n : Rat)) (b := qr (n : Rat)) rfl rfl ⟨fun _ => rfl, fun _ => rfl⟩,
    optR_eql_i (a := r2) (b := r2) rfl rfl ⟨fun _ => rfl, fun _ => rfl⟩,
    optY_eql_s (a := y) rfl rfl,
    trivial⟩
  have hcalls : CallsT Tryz.prog (@Know.calls (RatioMakes_g24_k b1 b2)) := ⟨callt rfl rfl fun w hG => hsm w,
    callt rfl rfl fun w hG => hfn w,
    callt rfl rfl fun w hG => hfd w,
    callt rfl rfl fun w hG => hfy w,
    callt rfl rfl fun w hG => hN w,
    callt rfl rfl fun w hG => hrN w,
    callt rfl rfl fun w hG => hO w,
    callt rfl rfl fun w hG => hrO w,
    callt rfl rfl fun w hG => hD _ i1 w,
    callt rfl rfl fun w hG => hrD _ i1 w,
    callt rfl rfl fun w hG => hM _ i2 w,
    callt rfl rfl fun w hG => hrM _ i2 w,
    callt rfl rfl fun w hG => hW w,
    callt rfl rfl fun w hG => hrW w,
    callt rfl rfl fun w hG => lives4_c w hG,
    trivial⟩
  have fin : ∀ v, @comes (RatioMakes_g24_k b1 b2) Tryz.prog glT 3000 RatioMakes_g24_f RatioMakes_g24_a = some v → ground v = true → Ending.returned (gval v) = .returned (.bool true) → Calls Tryz.prog 3 #[.agg #[.bool a.g, .string a.s, .string a.t], .bool neg, .string num, .string den, .int .i64 n, .agg #[.bool d.g, .string d.s, .int .i64 d.x]] w fun e w' => e = .returned (.bool true) ∧ Below w.heap.size w w' := fun v h1 h2 h3 => (@sym_ok _ (RatioMakes_g24_k b1 b2) _ (@KnowOk.of _ (RatioMakes_g24_k b1 b2) _ hops hcalls) (by kernel_rfl) _ _ _ _ h1 rfl h2 _ hG).mono fun e w' h => ⟨h.1.trans h3, h.2⟩
  clear hops hcalls
  cases b1 with
  | true =>
    have h1 : b = true := i1.1 rfl
    cases b2 with
    | true =>
      have h2 : m = true := i2.1 rfl
      exact fin _ (RatioMakes_g24_r1) rfl rfl
    | false =>
      have h2 : ¬ (m = true) := fun c => Bool.false_ne_true (i2.2 c)
      exact fin _ (RatioMakes_g24_r2) rfl rfl
  | false =>
    have h1 : ¬ (b = true) := fun c => Bool.false_ne_true (i1.2 c)
    cases b2 with
    | true =>
      have h2 : m = true := i2.1 rfl
      exact fin _ (RatioMakes_g24_r3) rfl rfl
    | false =>
      have h2 : ¬ (m = true) := fun c => Bool.false_ne_true (i2.2 c)
      exact fin _ (RatioMakes_g24_r4) rfl rfl

end Go.Proofs.YtajcapliokblfaaGreatDoor
set_option linter.unusedSimpArgs false
set_option linter.unusedVariables false
namespace Go.Proofs.YtajcapliokblfaaGreatDoor
open Go Go.RowKit Nt

theorem sz_nd {n : Nat} (h : (natS n).size ≤ 300) : nd 256 n ≤ 300 := by rw [natS_size] at h; exact h
theorem agree_New (g : Bool) (s t : ByteArray) (hs : s.size ≤ 300) (ht : t.size ≤ 300) : ∃ (r : Rx) (e : Int), (e = 0 ∨ e = 2) ∧
    (∀ w, Calls Tryz.prog 12 #[.bool g, .string s, .string t] w fun e' w' => e' = .returned (.tuple #[.agg #[.bool r.g, .string r.s, .string r.t], .int .i64 e]) ∧ Below w.heap.size w w') ∧
    (∀ w, Calls Tryz.prog 13 #[.bool g, .string s, .string t] w fun e' w' => e' = .returned (.tuple #[.agg #[.bool r.g, .string r.s, .string r.t], .int .i64 e]) ∧ Below w.heap.size w w') := by
  by_cases h1 : May s
  · by_cases h2 : May t
    · obtain ⟨n, hn, rfl⟩ := may_num h1
      obtain ⟨d, hd, rfl⟩ := may_num h2
      have z1 := sz_nd hs
      have z2 := sz_nd ht
      by_cases hd0 : d = 0
      · subst hd0
        rw [natS_zero] at h2 ⊢
        exact ⟨⟨false, ⟨#[]⟩, ⟨#[]⟩⟩, 2, Or.inr rfl, fun w => PNew_no g _ _ w (Or.inr (Or.inr ⟨h1, h2, rfl⟩)), fun w => rNew_no3 g _ h1 (by omega) w⟩
      · have hq : qfits (fr g n d) := ⟨Nat.le_trans (Bq_fr hd0 z1 z2).1 (by decide), Nat.le_trans (Bq_fr hd0 z1 z2).2 (by decide)⟩
        obtain ⟨e1, e2, e3, e4⟩ := rs_ok hq
        refine ⟨qr (fr g n d), 0, Or.inl rfl, fun w => ?_, fun w => rNew_ok g n d hn hd hd0 (by omega) (by omega) w⟩
        have h := PNew_c g n d w hn hd hd0
        unfold LwPost at h
        rw [e1, e2, e3, e4] at h
        exact h
    · exact ⟨⟨false, ⟨#[]⟩, ⟨#[]⟩⟩, 2, Or.inr rfl, fun w => PNew_no g _ _ w (Or.inr (Or.inl ⟨h1, h2⟩)), fun w => rNew_no2 g _ _ h1 h2 (by omega) (by omega) w⟩
  · exact ⟨⟨false, ⟨#[]⟩, ⟨#[]⟩⟩, 2, Or.inr rfl, fun w => PNew_no g _ _ w (Or.inl h1), fun w => rNew_no1 g _ _ h1 (by omega) w⟩
theorem agree_Of (d : Dx) (hs : d.s.size ≤ 9223372036854775807) : ∃ (r : Rx) (e : Int), (e = 0 ∨ e = 2 ∨ e = 4) ∧
    (∀ w, Calls Tryz.prog 14 #[.agg #[.bool d.g, .string d.s, .int .i64 d.x]] w fun e' w' => e' = .returned (.tuple #[.agg #[.bool r.g, .string r.s, .string r.t], .int .i64 e]) ∧ Below w.heap.size w w') ∧
    (∀ w, Calls Tryz.prog 15 #[.agg #[.bool d.g, .string d.s, .int .i64 d.x]] w fun e' w' => e' = .returned (.tuple #[.agg #[.bool r.g, .string r.s, .string r.t], .int .i64 e]) ∧ Below w.heap.size w w') := by
  obtain ⟨g, s, x⟩ := d
  by_cases hok : DOk g s x
  · rcases hok with ⟨rfl, rfl, rfl⟩ | ⟨n, hf, ho, rfl, h1, h2⟩
    · exact ⟨⟨false, ⟨#[]⟩, ⟨#[1]⟩⟩, 0, Or.inl rfl, fun w => POf_zero w, fun w => rOf_zero w⟩
    · by_cases hx : 0 ≤ x
      · obtain ⟨k, rfl⟩ : ∃ k : Nat, x = (k : Int) := ⟨x.toNat, by omega⟩
        have hk : k ≤ 1048576 := by omega
        by_cases hz : fits (n * 2 ^ k)
        · exact ⟨⟨g, natS (n * 2 ^ k), ⟨#[1]⟩⟩, 0, Or.inl rfl, fun w => POf_p1 g n k hf ho hk hz w, fun w => rOf_p1 g n k hf ho hk hz w⟩
        · exact ⟨⟨false, ⟨#[]⟩, ⟨#[]⟩⟩, 4, Or.inr (Or.inr rfl), fun w => POf_p0 g n k hf ho hk hz w, fun w => rOf_p0 g n k hf ho hk hz w⟩
      · obtain ⟨k, rfl⟩ : ∃ k : Nat, x = -(k : Int) := ⟨(-x).toNat, by omega⟩
        have hk : k ≤ 1048576 := by omega
        have hk0 : 0 < k := by omega
        by_cases hz : fits (1 * 2 ^ k)
        · exact ⟨⟨g, natS n, natS (1 * 2 ^ k)⟩, 0, Or.inl rfl, fun w => POf_n1 g n k hf ho hk hk0 hz w, fun w => rOf_n1 g n k hf ho hk hk0 hz w⟩
        · exact ⟨⟨false, ⟨#[]⟩, ⟨#[]⟩⟩, 4, Or.inr (Or.inr rfl), fun w => POf_n0 g n k hf ho hk hk0 hz w, fun w => rOf_n0 g n k hf ho hk hk0 hz w⟩
  · exact ⟨⟨false, ⟨#[]⟩, ⟨#[]⟩⟩, 2, Or.inr (Or.inl rfl), fun w => POf_bad g s x hok hs w, fun w => rOf_bad g s x hok hs w⟩
theorem agree_Dyad (a : Rx) (hs : a.small) : ∃ (y : Dx) (b : Bool),
    (∀ c : Bool, (c = true ↔ b = true) → ∀ w, Calls Tryz.prog 16 #[.agg #[.bool a.g, .string a.s, .string a.t]] w fun e' w' => e' = .returned (.tuple #[.agg #[.bool y.g, .string y.s, .int .i64 y.x], .bool c]) ∧ Below w.heap.size w w') ∧
    (∀ c : Bool, (c = true ↔ b = true) → ∀ w, Calls Tryz.prog 17 #[.agg #[.bool a.g, .string a.s, .string a.t]] w fun e' w' => e' = .returned (.tuple #[.agg #[.bool y.g, .string y.s, .int .i64 y.x], .bool c]) ∧ Below w.heap.size w w') := by
  rcases a.cases_ with ⟨x, hx⟩ | hno
  · have hb := hx.bytes hs
    obtain ⟨hf, rfl⟩ := hx
    have hz : nd 256 (qN x) ≤ 5000 ∧ nd 256 (qD x) ≤ 5000 := ⟨Nat.le_trans hb.1 (by decide), Nat.le_trans hb.2 (by decide)⟩
    by_cases hp : odN (qD x) = 1
    · refine ⟨⟨(mkD (qG x) (qN x) (-(lowN (qD x) : Int))).g, natS (mkD (qG x) (qN x) (-(lowN (qD x) : Int))).n, (mkD (qG x) (qN x) (-(lowN (qD x) : Int))).x⟩, (mkE (qN x) (-(lowN (qD x) : Int)) == 0), fun c hc w => ?_, fun c hc w => ?_⟩
      · rw [Bool.eq_iff_iff.2 hc]; exact PDyad_ok x hf hz hp w
      · rw [Bool.eq_iff_iff.2 hc]; exact rDyad_ok x hf hz hp w
    · refine ⟨⟨false, ⟨#[]⟩, 0⟩, false, fun c hc w => ?_, fun c hc w => ?_⟩
      · rw [Bool.eq_iff_iff.2 hc]; exact PDyad_not x hf hz hp w
      · rw [Bool.eq_iff_iff.2 hc]; exact rDyad_not x hf hz hp w
  · have hz : a.s.size ≤ 5000 ∧ a.t.size ≤ 5000 := ⟨Nat.le_trans hs.1 (by decide), Nat.le_trans hs.2 (by decide)⟩
    refine ⟨⟨false, ⟨#[]⟩, 0⟩, false, fun c hc w => ?_, fun c hc w => ?_⟩
    · rw [Bool.eq_iff_iff.2 hc]; exact PDyad_no a hno w
    · rw [Bool.eq_iff_iff.2 hc]; exact rDyad_no a hno hz w
theorem rWhole_c (z : Int) (w : World) (h1 : -9223372036854775808 ≤ z) (h2 : z ≤ 9223372036854775807) : Calls Tryz.prog 21 #[.int .i64 z] w fun e w' => e = .returned (qv (z : Rat)) ∧ Below w.heap.size w w' := by
  by_cases h : 0 ≤ z
  · exact rWhole_p z h1 h2 h w
  · exact rWhole_n z h1 h2 (by omega) w
theorem few_at {s : ByteArray} {b : Bool} (h : fewB s = b) (hs : s.size ≤ 9223372036854775807) (w : World) : Calls Tryz.prog 10 #[.string s] w fun e w' => e = .returned (.bool b) ∧ Below w.heap.size w w' := by
  rw [← h]; exact Pfew_c s w hs
theorem RatioMakes_law (a : Rx) (neg : Bool) (num den : ByteArray) (n : Int) (d : Dx) (w : World) (hG : Globs glT w) (ha : a.s.size ≤ 9223372036854775807 ∧ a.t.size ≤ 9223372036854775807) (hnum : num.size ≤ 9223372036854775807) (hden : den.size ≤ 9223372036854775807) (hd : d.s.size ≤ 9223372036854775807) (h1 : -9223372036854775808 ≤ n) (h2 : n ≤ 9223372036854775807) :
    Calls Tryz.prog 3 #[.agg #[.bool a.g, .string a.s, .string a.t], .bool neg, .string num, .string den, .int .i64 n, .agg #[.bool d.g, .string d.s, .int .i64 d.x]] w fun e w' => e = .returned (.bool true) ∧ Below w.heap.size w w' := by
  have sa := fun w => Psmall_c a w ha.1 ha.2
  cases c1 : smB a with
  | false => rw [c1] at sa; exact RatioMakes_s0 a neg num den n d w hG sa
  | true =>
    rw [c1] at sa
    cases c2 : fewB num with
    | false => exact RatioMakes_s1 a neg num den n d w hG sa (few_at c2 hnum)
    | true =>
      cases c3 : fewB den with
      | false => exact RatioMakes_s2 a neg num den n d w hG sa (few_at c2 hnum) (few_at c3 hden)
      | true =>
        cases c4 : fewB d.s with
        | false => exact RatioMakes_s3 a neg num den n d w hG sa (few_at c2 hnum) (few_at c3 hden) (few_at c4 hd)
        | true =>
          have z := smB_iff.1 c1
          obtain ⟨r1, e1, he1, hN, hrN⟩ := agree_New neg num den (fewB_iff.1 c2) (fewB_iff.1 c3)
          obtain ⟨r2, e2, he2, hO, hrO⟩ := agree_Of d hd
          obtain ⟨y, b, hD, hrD⟩ := agree_Dyad a z
          have hM : ∀ c : Bool, (c = true ↔ mayR a = true) → ∀ w, Calls Tryz.prog 18 #[.agg #[.bool a.g, .string a.s, .string a.t]] w fun e w' => e = .returned (.bool c) ∧ Below w.heap.size w w' := fun c hc w => by
            rw [Bool.eq_iff_iff.2 hc]; exact PMay_any a w
          have hrM : ∀ c : Bool, (c = true ↔ mayR a = true) → ∀ w, Calls Tryz.prog 19 #[.agg #[.bool a.g, .string a.s, .string a.t]] w fun e w' => e = .returned (.bool c) ∧ Below w.heap.size w w' := fun c hc w => by
            rw [Bool.eq_iff_iff.2 hc]; exact rMay4_any a w ⟨Nat.le_trans z.1 (by decide), Nat.le_trans z.2 (by decide)⟩
          have hW := fun w => PWhole_c n w h1 h2
          have hrW := fun w => rWhole_c n w h1 h2
          rcases he1 with rfl | rfl
          · rcases he2 with rfl | rfl | rfl
            · exact RatioMakes_g00 a neg num den n d r1 r2 y _ b w hG sa (few_at c2 hnum) (few_at c3 hden) (few_at c4 hd) hN hrN hO hrO hD hrD hM hrM hW hrW
            · exact RatioMakes_g02 a neg num den n d r1 r2 y _ b w hG sa (few_at c2 hnum) (few_at c3 hden) (few_at c4 hd) hN hrN hO hrO hD hrD hM hrM hW hrW
            · exact RatioMakes_g04 a neg num den n d r1 r2 y _ b w hG sa (few_at c2 hnum) (few_at c3 hden) (few_at c4 hd) hN hrN hO hrO hD hrD hM hrM hW hrW
          · rcases he2 with rfl | rfl | rfl
            · exact RatioMakes_g20 a neg num den n d r1 r2 y _ b w hG sa (few_at c2 hnum) (few_at c3 hden) (few_at c4 hd) hN hrN hO hrO hD hrD hM hrM hW hrW
            · exact RatioMakes_g22 a neg num den n d r1 r2 y _ b w hG sa (few_at c2 hnum) (few_at c3 hden) (few_at c4 hd) hN hrN hO hrO hD hrD hM hrM hW hrW
            · exact RatioMakes_g24 a neg num den n d r1 r2 y _ b w hG sa (few_at c2 hnum) (few_at c3 hden) (few_at c4 hd) hN hrN hO hrO hD hrD hM hrM hW hrW
end Go.Proofs.YtajcapliokblfaaGreatDoor
set_option linter.unusedVariables false
namespace Go.Proofs.YtajcapliokblfaaGreatDoor
open Go.ChangeShapes Go.WideShapes Go.ChangeAt Go.RowKit Go.Joins
variable {H : Type} {enc : TypeId × Value → H}
/-- A Dyad's datum. -/
def dyadD (H : Type) (g : Bool) (s : ByteArray) (x : Int) : DataW H := .agg [.lit (.bool g), .lit (.string s.data.toList), .lit (.int .i64 x)]
set_option maxRecDepth 100000 in
theorem open_dyad {w : World} {base : Nat} {spare : Nat → Bool} {held : Bool} {r : Go.Reach} {b0 : Nat} {v : Value} {d : DataW H} {p : List MemPlace}
    (hv : Value.okWide Tryz.prog w r b0 26 v) (h : DataW.Trod enc Tryz.prog w base spare held 26 v d p) :
    ∃ (g : Bool) (s : ByteArray) (x : Int), v = .agg #[.bool g, .string s, .int .i64 x] ∧ d = dyadD H g s x ∧ p = [] ∧ s.size ≤ maxLen ∧ (Lit.int .i64 x).wf = true := by
  obtain ⟨c0, c1, c2, y0, y1, y2, m, rfl, rfl, rfl, hy0, hy1, hy2⟩ := open_agg3 Tryz.underlying26 (by kernel_rfl) (by kernel_rfl) hv h
  obtain ⟨g, e0, rfl⟩ := DataW.trod_bool Tryz.underlying4 hy0
  obtain ⟨s, e1, rfl, hs⟩ := DataW.trod_string Tryz.underlying22 hy1
  obtain ⟨x, e2, rfl, wx⟩ := DataW.trod_int Tryz.underlying3 hy2
  simp at e0 e1 e2
  subst e0 e1 e2
  exact ⟨g, s, x, rfl, rfl, rfl, hs, wx⟩
set_option maxRecDepth 100000 in
theorem shut_dyad {W' : World} {b : Nat} {sp : Nat → Bool} {hd : Bool} {g : Bool} {s : ByteArray} {x : Int} (hs : s.size ≤ maxLen) (wx : (Lit.int .i64 x).wf = true) :
    DataW.Trod enc Tryz.prog W' b sp hd 26 (.agg #[.bool g, .string s, .int .i64 x]) (dyadD H g s x) [] := by
  simpa [dyadD] using shut_agg3 (enc := enc) (w := W') (base := b) (spare := sp) (held := hd) (y0 := (.lit (.bool g), [])) (y1 := (.lit (.string s.data.toList), [])) (y2 := (.lit (.int .i64 x), [])) Tryz.underlying26 (by kernel_rfl) (by kernel_rfl) ⟨1, by simp [DataW.trod, Tryz.underlying4]⟩ ⟨1, by simp [DataW.trod, Tryz.underlying22, hs]⟩ ⟨1, by simp [DataW.trod, Tryz.underlying3, wx]⟩
theorem int64_bounds {x : Int} (h : (Lit.int .i64 x).wf = true) : -9223372036854775808 ≤ x ∧ x ≤ 9223372036854775807 := by
  unfold Lit.wf at h
  rw [Bool.and_eq_true, decide_eq_true_iff, decide_eq_true_iff] at h
  exact h
theorem float_bound {b : Nat} (h : (Lit.float .f64 b).wf = true) : b < 18446744073709551616 := by
  unfold Lit.wf at h
  exact of_decide_eq_true h
end Go.Proofs.YtajcapliokblfaaGreatDoor
