/- Contracts: the document's May and Cmp; refused. -/
import Derived.Test.YtjcicbnjoffbhaaN24
set_option linter.unusedSimpArgs false
set_option linter.unusedVariables false
namespace Go.Proofs.Ytjcicbnjoffbhaa
open Go Go.RowKit Nt

@[irreducible] def mayB (s : ByteArray) : Bool := decide (May s)
theorem mayB_yes {s : ByteArray} (h : May s) : mayB s = true := by unfold mayB; exact decide_eq_true h
theorem mayB_no {s : ByteArray} (h : ¬ May s) : mayB s = false := by unfold mayB; exact decide_eq_false h
theorem toList_empty {s : ByteArray} (h : s.size = 0) : s.toList = [] := by
  rw [ba_toList]; exact List.eq_nil_of_length_eq_zero (by rw [Array.length_toList]; exact h)
theorem toList_full {s : ByteArray} (h : 0 < s.size) : ¬ s.toList = [] := fun c => by
  rw [ba_toList] at c
  have : s.data.toList.length = 0 := by rw [c]; rfl
  rw [Array.length_toList] at this
  have h2 : s.size = s.data.size := rfl
  omega
theorem toList_full2 {s : ByteArray} (h : 0 < s.size) : s.toList.isEmpty = false := by
  have := toList_full h
  cases h2 : s.toList with
  | nil => exact absurd h2 this
  | cons x l => rfl
theorem nne_true {x : Nat} (h : x ≠ 0) : (((x : Nat) : Int) != 0) = true := by rw [bne_iff_ne]; omega
theorem nne_false {x : Nat} (h : x = 0) : (((x : Nat) : Int) != 0) = false := by subst h; rfl
set_option maxRecDepth 100000 in
theorem rMay_c (s : ByteArray) (w : World) (hs : s.size ≤ 9223372036854775807) :
    Calls Try.prog 59 #[.string s] w fun e w' => e = .returned (.bool (mayB s)) ∧ w = w' := by
  by_cases h1 : 16384 < s.size
  · have HB := Lib.hid (mayB_no (s := s) (fun c => by have := c.1; omega))
    have h1' : ¬ (s.size : Int) ≤ 16384 := by omega
    have h1'' : ¬ s.size ≤ 16384 := by omega
    go_enter Try.func59, Try.ntmps59
    go_wp2
    go_ret
    exact ⟨by rw [HB.out]; rfl, rfl⟩
  · have h1' : (s.size : Int) ≤ 16384 := by omega
    have h1'' : s.size ≤ 16384 := by omega
    by_cases h2 : s.size = 0
    · have HB := Lib.hid (mayB_yes (s := s) ⟨by omega, fun h => by omega⟩)
      have hE := toList_empty h2
      have H2 := Lib.hid h2
      clear h2
      go_enter Try.func59, Try.ntmps59
      go_wp2
      go_ret
      exact ⟨by rw [HB.out]; rfl, rfl⟩
    · have h2' : 0 < s.size := by omega
      have hE := toList_full h2'
      have hE2 := toList_full2 h2'
      by_cases h3 : (s[0]'h2').toNat = 0
      · have HB := Lib.hid (mayB_no (s := s) (fun c => c.2 h2' h3))
        have h3' := nne_false h3
        have H3 := Lib.hid h3
        clear h3
        go_enter Try.func59, Try.ntmps59
        go_wp2
        go_ret
        exact ⟨by rw [HB.out]; rfl, rfl⟩
      · have HB := Lib.hid (mayB_yes (s := s) ⟨by omega, fun _ => h3⟩)
        have h3' := nne_true h3
        have H3 := Lib.hid h3
        clear h3
        go_enter Try.func59, Try.ntmps59
        go_wp2
        go_ret
        exact ⟨by rw [HB.out]; rfl, rfl⟩
@[irreducible] def refB (ss : List ByteArray) : Bool := decide (∃ s ∈ ss, ¬ May s)
theorem refB_yes {ss : List ByteArray} {s : ByteArray} (h : s ∈ ss) (hs : ¬ May s) : refB ss = true := by unfold refB; exact decide_eq_true ⟨s, h, hs⟩
theorem refB_no {ss : List ByteArray} (h : ∀ s ∈ ss, May s) : refB ss = false := by unfold refB; exact decide_eq_false (fun ⟨s, h1, h2⟩ => h2 (h s h1))
set_option maxRecDepth 100000 in
set_option maxHeartbeats 400000 in
theorem refused_c (A : Option Addr) (c : Nat) (ss : List ByteArray) (w : World) (hl : ss.length ≤ 9223372036854775807) (hs : ∀ s ∈ ss, s.size ≤ 9223372036854775807) (h : Strs w A ss) :
    Calls Try.prog 22 #[.slice A ss.length c] w fun e w' => e = .returned (.bool (refB ss)) ∧ w = w' := by
  have HS := Lib.hid h
  have HZ := Lib.hid hs
  clear h hs
  go_enter Try.func22, Try.ntmps22
  go_wp2
  go_loop [3] (fun i => ∃ k : Nat, k ≤ ss.length ∧ i = .int .i64 k ∧ Hid (∀ s ∈ ss.take k, May s)) (fun i => ss.length - (intOf i).toNat)
  case atStart => exact ⟨0, Nat.zero_le _, rfl, Lib.hid (by simp)⟩
  case round =>
    obtain ⟨k, hk, rfl, hm⟩ := hrel
    by_cases hlt : k < ss.length
    · obtain ⟨ad, rfl, hc⟩ := HS.out.at_ hlt
      have hmem : ss[k] ∈ ss := List.getElem_mem hlt
      have hsz := HZ.out _ hmem
      have hnext : May ss[k] → ∀ s ∈ ss.take (k + 1), May s := fun h s hs => by
        rw [List.take_succ_eq_append_getElem hlt, List.mem_append] at hs
        rcases hs with hs | hs
        · exact hm.out s hs
        · rw [List.mem_singleton] at hs; rw [hs]; exact h
      have HM := Lib.hid hmem
      have HN := Lib.hid hnext
      clear hmem hnext
      generalize ss[k] = s at *
      by_cases h1 : May s
      · have HG := Lib.hid h1
        have hb := mayB_yes h1
        clear h1
        go_wp2_with (go_at_call 59; refine (rMay_c _ _ (by assumption)).mono ?_; rintro e w' ⟨rfl, rfl⟩)
        go_round
        case rel => exact ⟨k + 1, by omega, by go_num, Lib.hid (HN.out HG.out)⟩
        case measure => simp [intOf]; omega
      · have HG := Lib.hid h1
        have hb := mayB_no h1
        clear h1
        go_wp2_with (go_at_call 59; refine (rMay_c _ _ (by assumption)).mono ?_; rintro e w' ⟨rfl, rfl⟩)
        go_ret
        exact ⟨by rw [refB_yes HM.out HG.out]; rfl, rfl⟩
    · obtain rfl : k = ss.length := by omega
      go_wp2
      go_ret
      have := hm.out
      rw [List.take_length] at this
      exact ⟨by rw [refB_no this]; rfl, rfl⟩
set_option maxRecDepth 100000 in
set_option maxHeartbeats 1000000 in
theorem rCmp_c (a b : Nat) (w : World) (ha : fits a) (hb : fits b) :
    Calls Try.prog 33 #[.string (natS a), .string (natS b)] w fun e w' => e = .returned (.int .i64 (cmpN a b)) ∧ Drawn w w' := by
  have hsa := natS_size a
  have hsb := natS_size b
  have hna : nd 256 a ≤ 16384 := ha
  have hnb : nd 256 b ≤ 16384 := hb
  rcases Nat.lt_trichotomy (nd 256 a) (nd 256 b) with h | h | h
  · have hn : ((nd 256 a : Int) != (nd 256 b : Int)) = true := by rw [bne_iff_ne]; omega
    have HC := Lib.hid (cmpN_lt (lt_of_nd (b := 256) (by omega) h))
    go_enter Try.func33, Try.ntmps33
    go_wp2
    go_ret
    exact ⟨ret_int HC.out.symm, Drawn.refl _⟩
  · obtain ⟨N, hN⟩ : ∃ N, N = nd 256 a := ⟨_, rfl⟩
    have hbN : nd 256 b = N := by omega
    rw [← hN] at hsa hna
    rw [hbN] at hsb hnb
    have hn : ((N : Int) != (N : Int)) = false := by simp
    have HN := Lib.hid hN
    have HBN := Lib.hid hbN
    have ga := fun k (h : k < (natS a).size) => natS_get a k h
    have gb := fun k (h : k < (natS b).size) => natS_get b k h
    rw [← hN] at ga
    rw [hbN] at gb
    have GA := Lib.hid ga
    have GB := Lib.hid gb
    clear hN hbN ga gb h ha hb
    go_enter Try.func33, Try.ntmps33
    go_wp2
    go_loopw [5] (fun i wr => ∃ (k : Nat), k ≤ N ∧ i = .int .i64 k ∧ Hid (∀ j, N - k ≤ j → j < N → dgt 256 a j = dgt 256 b j) ∧ Drawn w wr) (fun i _ => N - (intOf i).toNat)
    case atStart => exact ⟨0, Nat.zero_le _, rfl, Lib.hid (fun j h1 h2 => by omega), Drawn.refl _⟩
    case round =>
      obtain ⟨k, hk, rfl, hd, hdr⟩ := hrel
      by_cases hlt : k < N
      · have hka : k < (natS a).size := by omega
        have hkb : k < (natS b).size := by omega
        have ea := GA.out k hka
        have eb := GB.out k hkb
        have hA : a < 256 ^ N := by rw [HN.out]; exact lt_nd (by omega)
        have hB : b < 256 ^ N := by rw [← HBN.out]; exact lt_nd (by omega)
        have hdd := hd.out
        obtain ⟨p, hp⟩ : ∃ p, p = N - 1 - k := ⟨_, rfl⟩
        have hd2 : ∀ j, p + 1 ≤ j → j < N → dgt 256 a j = dgt 256 b j := fun j h1 h2 => hdd j (by omega) h2
        rw [← hp] at ea eb
        rcases Nat.lt_trichotomy (dgt 256 a p) (dgt 256 b p) with h1 | h1 | h1
        · have HC := Lib.hid (cmpN_lt (lt_of_digit (b := 256) (by omega) hA hB (by omega) hd2 h1))
          have h2 : (natS a)[k].toNat < (natS b)[k].toNat := by omega
          have h3 : ((natS a)[k].toNat : Int) < ((natS b)[k].toNat : Int) := by omega
          clear ea eb hA hB hdd hp hd2 h1
          go_wp2
          go_quiet (fail)
          go_wp2
          go_ret
          exact ⟨ret_int HC.out.symm, by first | exact Drawn.more hdr _ | exact Drawn.more (Drawn.more hdr _) _⟩
        · have h2 : ¬ (natS a)[k].toNat < (natS b)[k].toNat := by omega
          have h3 : ¬ (natS b)[k].toNat < (natS a)[k].toNat := by omega
          have h4 : ¬ ((natS a)[k].toNat : Int) < ((natS b)[k].toNat : Int) := by omega
          have h5 : ¬ ((natS b)[k].toNat : Int) < ((natS a)[k].toNat : Int) := by omega
          have HD : Hid (∀ j, N - (k + 1) ≤ j → j < N → dgt 256 a j = dgt 256 b j) := Lib.hid (fun j q1 q2 => by
            rcases Nat.lt_or_ge p j with q3 | q3
            · exact hd2 j q3 q2
            · obtain rfl : j = p := by omega
              exact h1)
          clear ea eb hA hB hdd hp hd2 h1
          go_wp2
          go_quiet (fail)
          go_wp2
          go_quiet (fail)
          go_wp2
          go_roundw
          case rel => exact ⟨k + 1, by omega, by go_num, HD, by first | exact Drawn.more hdr _ | exact Drawn.more (Drawn.more hdr _) _⟩
          case measure => simp [intOf]; omega
        · have HC := Lib.hid (cmpN_gt (lt_of_digit (b := 256) (by omega) hB hA (by omega) (fun j q1 q2 => (hd2 j q1 q2).symm) h1))
          have h2 : ¬ (natS a)[k].toNat < (natS b)[k].toNat := by omega
          have h3 : (natS b)[k].toNat < (natS a)[k].toNat := by omega
          have h4 : ¬ ((natS a)[k].toNat : Int) < ((natS b)[k].toNat : Int) := by omega
          have h5 : ((natS b)[k].toNat : Int) < ((natS a)[k].toNat : Int) := by omega
          clear ea eb hA hB hdd hp hd2 h1
          go_wp2
          go_quiet (fail)
          go_wp2
          go_quiet (fail)
          go_wp2
          go_ret
          exact ⟨ret_int HC.out.symm, by first | exact Drawn.more hdr _ | exact Drawn.more (Drawn.more hdr _) _⟩
      · obtain rfl : k = N := by omega
        have hA : a < 256 ^ k := by rw [HN.out]; exact lt_nd (by omega)
        have hB : b < 256 ^ k := by rw [← HBN.out]; exact lt_nd (by omega)
        have he : a = b := eq_of_digits hA hB (fun i hi => hd.out i (by omega) hi)
        have HE := Lib.hid he
        clear hA hB he
        go_wp2
        go_ret
        refine ⟨ret_int ?_, hdr⟩
        rw [HE.out]; exact (cmpN_eq _).symm
  · have hn : ((nd 256 a : Int) != (nd 256 b : Int)) = true := by rw [bne_iff_ne]; omega
    have HC := Lib.hid (cmpN_gt (lt_of_nd (b := 256) (by omega) h))
    have h2 : ¬ nd 256 a < nd 256 b := by omega
    go_enter Try.func33, Try.ntmps33
    go_wp2
    go_ret
    exact ⟨ret_int HC.out.symm, Drawn.refl _⟩
end Go.Proofs.Ytjcicbnjoffbhaa
