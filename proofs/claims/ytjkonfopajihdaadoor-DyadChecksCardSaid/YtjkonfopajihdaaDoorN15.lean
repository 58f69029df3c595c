/- Contracts of package nat: all, Check, words, made, brief, Of. -/
import Derived.Test.YtjkonfopajihdaaDoorN14
set_option linter.unusedSimpArgs false
set_option linter.unusedVariables false
namespace Go.Proofs.YtjkonfopajihdaaDoor
open Go Go.RowKit Nt

/-- The strings that stand at A. -/
def Strs (w : World) (A : Option Addr) (ss : List ByteArray) : Prop := 0 < ss.length → ∃ ad, A = some ad ∧ ∀ j (h : j < ss.length), w.cell? (ad.add j) = some (.string ss[j])
theorem Strs.at_ {w : World} {A : Option Addr} {ss : List ByteArray} (h : Strs w A ss) {k : Nat} (hk : k < ss.length) : ∃ ad, A = some ad ∧ w.cell? (ad.add k) = some (.string ss[k]) := by
  obtain ⟨ad, e, hc⟩ := h (by omega); exact ⟨ad, e, hc k hk⟩
theorem block_of_add' (a : Addr) (n : Nat) : (a.add n).block = a.block := by unfold Addr.add; split <;> rfl
instance (s : ByteArray) : Decidable (May s) := inferInstanceAs (Decidable (_ ∧ _))
@[irreducible] def mayE (ss : List ByteArray) : Int := if ∀ s ∈ ss, May s then 0 else 2
theorem mayE_ok {ss : List ByteArray} (h : ∀ s ∈ ss, May s) : mayE ss = 0 := by unfold mayE; rw [if_pos h]
theorem mayE_no {ss : List ByteArray} {s : ByteArray} (h : s ∈ ss) (hs : ¬ May s) : mayE ss = 2 := by unfold mayE; rw [if_neg (fun c => hs (c s h))]
theorem u8_eqz (x : UInt8) (h : x.toNat = 0) : ((x.toNat : Int) == 0) = true := eqz_true h
theorem u8_nez (x : UInt8) (h : x.toNat ≠ 0) : ((x.toNat : Int) == 0) = false := eqz_false h
set_option maxRecDepth 100000 in
set_option maxHeartbeats 400000 in
theorem all_c (A : Option Addr) (c : Nat) (ss : List ByteArray) (w : World) (hl : ss.length ≤ 9223372036854775807) (h : Strs w A ss) :
    Calls Tryd.prog 97 #[.slice A ss.length c] w fun e w' => e = .returned (.int .i64 (mayE ss)) ∧ w = w' := by
  have HS := Lib.hid h
  clear h
  go_enter Tryd.func97, Tryd.ntmps97
  go_wp2
  go_loop [7] (fun i => ∃ k : Nat, k ≤ ss.length ∧ i = .int .i64 k ∧ Hid (∀ s ∈ ss.take k, May s)) (fun i => ss.length - (intOf i).toNat)
  case atStart => exact ⟨0, Nat.zero_le _, rfl, Lib.hid (by simp)⟩
  case round =>
    obtain ⟨k, hk, rfl, hm⟩ := hrel
    by_cases hlt : k < ss.length
    · obtain ⟨ad, rfl, hc⟩ := HS.out.at_ hlt
      have hmem : ss[k] ∈ ss := List.getElem_mem hlt
      have hnext : May ss[k] → ∀ s ∈ ss.take (k + 1), May s := fun h s hs => by
        rw [List.take_succ_eq_append_getElem hlt, List.mem_append] at hs
        rcases hs with hs | hs
        · exact hm.out s hs
        · rw [List.mem_singleton] at hs; rw [hs]; exact h
      have HM := Lib.hid hmem
      have HN := Lib.hid hnext
      clear hmem hnext
      generalize ss[k] = s at *
      by_cases h1 : 16384 < s.size
      · have HB : Hid (¬ May s) := Lib.hid (fun c => by have := c.1; omega)
        have h1' : decide ((s.size : Int) > 16384) = true := decide_eq_true (by omega)
        have h1'' : (16384 : Int) < (s.size : Int) := by omega
        go_wp2
        go_ret
        exact ⟨ret_int (mayE_no HM.out HB.out).symm, rfl⟩
      · have h1'' : ¬ (16384 : Int) < (s.size : Int) := by omega
        have h1s : s.size ≤ 16384 := by omega
        by_cases h2 : s.size = 0
        · have HG : Hid (May s) := Lib.hid ⟨by omega, fun h => by omega⟩
          have h2' : ¬ (0 : Int) < (s.size : Int) := by omega
          have h2'' : ¬ 0 < s.size := by omega
          have H2 := Lib.hid h2
          clear h2
          go_wp2
          go_round
          case rel => exact ⟨k + 1, by omega, by go_num, Lib.hid (HN.out HG.out)⟩
          case measure => simp [intOf]; omega
        · have h2' : 0 < s.size := by omega
          by_cases h3 : (s[0]'h2').toNat = 0
          · have HB : Hid (¬ May s) := Lib.hid (fun c => c.2 h2' h3)
            have h3' := u8_eqz _ h3
            have H3 := Lib.hid h3
            clear h3
            go_wp2
            go_ret
            exact ⟨ret_int (mayE_no HM.out HB.out).symm, rfl⟩
          · have HG : Hid (May s) := Lib.hid ⟨by omega, fun _ => h3⟩
            have h3' := u8_nez _ h3
            have H3 := Lib.hid h3
            clear h3
            go_wp2
            go_round
            case rel => exact ⟨k + 1, by omega, by go_num, Lib.hid (HN.out HG.out)⟩
            case measure => simp [intOf]; omega
    · obtain rfl : k = ss.length := by omega
      go_wp2
      go_ret
      have := hm.out
      rw [List.take_length] at this
      exact ⟨ret_int (mayE_ok this).symm, rfl⟩
/-- A block of texts. -/
theorem strs_new (w : World) (T : TypeId) (ss : List ByteArray) : Strs (w.alloc (.cells (ss.map Value.string).toArray T)) (some ⟨w.heap.size, 0, none⟩) ss := fun _ =>
  ⟨_, rfl, fun j h => by rw [add_plain0, World.cell?_alloc_new]; simp [h]⟩
set_option maxRecDepth 100000 in
theorem Check_c (s : ByteArray) (w : World) :
    Calls Tryd.prog 59 #[.string s] w fun e w' => e = .returned (.int .i64 (mayE [s])) ∧ Below w.heap.size w w' := by
  go_enter Tryd.func59, Tryd.ntmps59
  go_wp2_with fail
  refine (all_c _ 1 [s] _ (by simp) (strs_new w 22 [s])).mono ?_
  rintro e w' ⟨rfl, rfl⟩
  go_wp2
  go_ret
  exact ⟨rfl, (Below.refl _ _).alloc (Nat.le_refl _) _⟩
theorem words_c (n : Nat) (w : World) (hn : fits n) :
    Calls Tryd.prog 102 #[.string (natS n)] w (NumPost n w) := by
  have hz : (natS n).size ≤ 1000000000 := by rw [natS_size]; unfold fits at hn; omega
  have hr := Read_c (natS n) w hz
  rw [bytesN_natS] at hr
  have HR := Lib.hid hr
  clear hr
  go_enter Tryd.func102, Tryd.ntmps102
  go_wp2_with fail
  refine HR.out.mono ?_
  intro e w' hp
  obtain ⟨A, c, rfl, hc, hrow, hb⟩ := hp.get
  go_wp2
  go_ret
  exact NumPost.mk hc hrow hb
/-- The answer of what makes a number, and its error. -/
@[irreducible] def resS (n : Nat) : ByteArray := if fits n then natS n else ⟨#[]⟩
@[irreducible] def resE (n : Nat) : Int := if fits n then 0 else 4
theorem resS_ok {n : Nat} (h : fits n) : resS n = natS n := by unfold resS; rw [if_pos h]
theorem resE_ok {n : Nat} (h : fits n) : resE n = 0 := by unfold resE; rw [if_pos h]
theorem resS_no {n : Nat} (h : ¬ fits n) : resS n = ⟨#[]⟩ := by unfold resS; rw [if_neg h]
theorem resE_no {n : Nat} (h : ¬ fits n) : resE n = 4 := by unfold resE; rw [if_neg h]
/-- A text and an error; memory below is as it was. -/
def StrPost (s : ByteArray) (r : Int) (w : World) (e : Ending) (w' : World) : Prop := e = .returned (.tuple #[.string s, .int .i64 r]) ∧ Below w.heap.size w w'
@[irreducible] def longB (n : Nat) : Bool := decide (131072 < n)
@[local go_sem] theorem gt_long (n : Nat) : decide ((131072 : Int) < (n : Int)) = longB n := by
  unfold longB; rw [Bool.eq_iff_iff, decide_eq_true_iff, decide_eq_true_iff]; omega
theorem longB_iff (n : Nat) : longB (nd 2 n) = decide (¬ fits n) := by
  unfold longB fits
  have := bits_le n 16384
  rw [Bool.eq_iff_iff, decide_eq_true_iff, decide_eq_true_iff]; omega
set_option maxRecDepth 100000 in
theorem made_c (A : Option Addr) (c n B : Nat) (w : World) (hL : nd W n ≤ 1000000000) (hr : Row w B A n (nd W n)) (hB : B ≤ w.heap.size) :
    Calls Tryd.prog 100 #[.slice A (nd W n) c] w (StrPost (resS n) (resE n) w) := by
  have HR := Lib.hid hr
  clear hr
  by_cases h : fits n
  · have hl : longB (nd 2 n) = false := by rw [longB_iff]; simp [h]
    have HE := Lib.hid (resE_ok h)
    have HS := Lib.hid (resS_ok h)
    go_enter Tryd.func100, Tryd.ntmps100
    go_wp2_with (first | (go_at_call 118; refine (Len_c _ _ _ B _ hL HR.out).mono ?_; rintro e w' ⟨rfl, rfl⟩) | (go_at_call 119; refine (Bytes_c _ _ _ B _ hL HR.out hB).mono ?_; rintro e w' ⟨rfl, hb⟩))
    go_ret2
    exact ⟨by rw [HE.out, HS.out]; rfl, hb⟩
  · have hl : longB (nd 2 n) = true := by rw [longB_iff]; simp [h]
    have HE := Lib.hid (resE_no h)
    have HS := Lib.hid (resS_no h)
    go_enter Tryd.func100, Tryd.ntmps100
    go_wp2_with (first | (go_at_call 118; refine (Len_c _ _ _ B _ hL HR.out).mono ?_; rintro e w' ⟨rfl, rfl⟩))
    go_ret2
    exact ⟨by rw [HE.out, HS.out]; rfl, Below.refl _ _⟩
end Go.Proofs.YtjkonfopajihdaaDoor
