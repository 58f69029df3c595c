/- Texts put together: N33 N37 D1 D2 D8 N38 DM D10 D15 D18 D19 D23 Fft B1t B2t Mtt B3t EvT D6 D20 D7 D22 D24 D25 D27 D28 D30 D31 D32 D33 D34 D35 D36 D37 D39 D40 D42 D43 SyD D46 D47. -/
import Derived.Test.YtamcnnocjelcjaaGreatDoorU3
import Derived.BigQuiet
import Derived.Deep.RegionLaw
import Ieee.Arith
import Derived.Test.YtamcnnocjelcjaaGreatDoorProg
import Derived.WalkKit
import Derived.WalkLawsBesides
import Derived.WalkSpells
import Derived.Outline
import Derived.Lib.Hide
import Derived.Deep.Light
import Derived.Laws.BitsAllLaws
import Derived.Laws.FloatArith
import Derived.Deep.QuietTactic
import Derived.Lib.TrailingZeros
import Derived.Shelf.Strconv.Itoa0
import Derived.Laws.ShiftsVarLaws
import Derived.WalkSmall
import Derived.Test.YtamcnnocjelcjaaGreatDoorRows
import Derived.LaidSub
import Derived.Lib.LaidTab
import Derived.Deep.RegionHeld3
set_option linter.unusedSimpArgs false
set_option linter.unusedVariables false
namespace Go.Proofs.YtamcnnocjelcjaaGreatDoor
open Go Go.RowKit Nt
theorem nd_mul_pow {a j : Nat} (ha : a ≠ 0) : nd 2 (a * 2 ^ j) = nd 2 a + j := by
  obtain ⟨m, hm⟩ : ∃ m, nd 2 a = m + 1 := ⟨nd 2 a - 1, by
    rcases Nat.eq_zero_or_pos (nd 2 a) with h | h
    · exact absurd ((nd_eq_zero (by omega)).1 h) ha
    · omega⟩
  have h1 := lt_nd (b := 2) (n := a) (by omega)
  have h2 := (pow_le_iff (b := 2) (by omega) m a).2 (by omega)
  rw [hm] at h1
  rw [hm, show m + 1 + j = m + j + 1 by omega]
  refine nd_unique (by omega) ?_ ?_
  · rw [Nat.pow_add]; exact Nat.mul_le_mul_right _ h2
  · rw [show m + j + 1 = m + 1 + j by omega, Nat.pow_add]; exact (Nat.mul_lt_mul_right (Nat.two_pow_pos j)).2 h1
theorem fits_shift {a j : Nat} (ha : a ≠ 0) : fits (a * 2 ^ j) ↔ nd 2 a + j ≤ 131072 := by
  unfold fits
  rw [← bits_le, nd_mul_pow ha]
set_option maxRecDepth 100000 in
theorem NShift_stay (a : Nat) (w : World) (hf : fits a) (ha : a ≠ 0) :
    Calls Tryz.prog 58 #[.string (natS a), .int .i64 0] w (StrPost (natS a) 0 w) := by
  have hE := natS_full ha
  have hE2 := natS_full2 ha
  go_enter Tryz.func58, Tryz.ntmps58
  go_wp2_with (go_at_call 95; refine (NLen_c _ _ hf).mono ?_; rintro e w1 ⟨rfl, hb⟩)
  go_ret2
  exact ⟨rfl, hb⟩
theorem bits_131072 {a : Nat} (hf : fits a) : nd 2 a ≤ 131072 := (bits_le a 16384).2 hf
set_option maxRecDepth 100000 in
set_option maxHeartbeats 1000000 in
theorem NShift_down (a j : Nat) (w : World) (hf : fits a) (ha : a ≠ 0) (hj : 0 < j) (hj2 : j < nd 2 a) :
    Calls Tryz.prog 58 #[.string (natS a), .int .i64 (-(j : Int))] w (StrPost (natS (a / 2 ^ j)) 0 w) := by
  have hE := natS_full ha
  have hE2 := natS_full2 ha
  have hl := bits_131072 hf
  obtain ⟨z, hz⟩ : ∃ z : Int, z = -(j : Int) := ⟨_, rfl⟩
  have z1 : (z == 0) = false := by rw [beq_eq_false_iff_ne]; omega
  have z2 : z < 0 := by omega
  have z3 : ¬ z ≤ -(nd 2 a : Int) := by omega
  have hw : wrap64 (-(nd 2 a : Int)) = -(nd 2 a : Int) := IntWalk.wrap64_in _ (by omega)
  have hw2 : wrap64 (-z) = (j : Int) := by rw [IntWalk.wrap64_in _ (by omega)]; omega
  have hfd := fits_le hf (Nat.div_le_self a (2 ^ j))
  have R1 := Lib.hid (resS_ok hfd)
  have R2 := Lib.hid (resE_ok hfd)
  have hwa := Lib.hid (fits_words hf)
  have hwd := Lib.hid (fits_words hfd)
  have HJ := Lib.hid (show j ≤ 1000000000000 by omega)
  rw [← hz]
  clear hz hj hj2 hl ha hfd
  go_enter Tryz.func58, Tryz.ntmps58
  go_upto_region 9 with (go_at_call 95; refine (NLen_c _ _ hf).mono ?_; rintro e w1 ⟨rfl, hb1⟩)
  go_wp2_with fail
  refine (words_c a _ hf).mono ?_
  intro e w2 hp
  obtain ⟨A1, c1, rfl, hc1, hr1, hb2⟩ := hp.get
  have HR1 := Lib.hid hr1
  clear hr1 hp
  go_wp2_with fail
  refine (Shr_c A1 c1 a j w2.heap.size w2 HJ.out (by have := hwa.out; omega) HR1.out (Nat.le_refl _)).mono ?_
  intro e w3 hp
  obtain ⟨A2, c2, rfl, hc2, hr2, hb3⟩ := hp.get
  have HR2 := Lib.hid hr2
  clear hr2 hp
  go_wp2_with fail
  refine (made_c A2 c2 (a / 2 ^ j) w3.heap.size w3 (by have := hwd.out; omega) HR2.out (Nat.le_refl _)).mono ?_
  rintro e w4 ⟨rfl, hb4⟩
  go_wp2_with fail
  go_ret2
  exact ⟨by rw [R1.out, R2.out]; rfl, below_chain hb1 (below_chain hb2 (below_chain hb3 hb4))⟩
set_option maxRecDepth 100000 in
set_option maxHeartbeats 1000000 in
theorem NShift_up (a j : Nat) (w : World) (hf : fits a) (ha : a ≠ 0) (hj : 0 < j) (hj2 : fits (a * 2 ^ j)) :
    Calls Tryz.prog 58 #[.string (natS a), .int .i64 (j : Nat)] w (StrPost (natS (a * 2 ^ j)) 0 w) := by
  have hE := natS_full ha
  have hE2 := natS_full2 ha
  have hl := bits_131072 hf
  have R1 := Lib.hid (resS_ok hj2)
  have R2 := Lib.hid (resE_ok hj2)
  have hwm := Lib.hid (fits_words hj2)
  have hwa := Lib.hid (fits_words hf)
  rw [fits_shift ha] at hj2
  have hj3 : j ≤ 131072 := by omega
  have z1 : ((j : Int) == 0) = false := by rw [beq_eq_false_iff_ne]; omega
  have z2 : ¬ (j : Int) < 0 := by omega
  have hw : wrap64 (131072 - (nd 2 a : Int)) = 131072 - (nd 2 a : Int) := IntWalk.wrap64_in _ (by omega)
  have hT2 : ¬ (131072 : Int) - (nd 2 a : Int) < (j : Int) := by omega
  have HJ := Lib.hid (show nd W a + j / 64 ≤ 1000000000 by have := hwa.out; omega)
  clear hj2 hj3
  go_enter Tryz.func58, Tryz.ntmps58
  go_upto_region 12 with (go_at_call 95; refine (NLen_c _ _ hf).mono ?_; rintro e w1 ⟨rfl, hb1⟩)
  go_wp2_with fail
  refine (words_c a _ hf).mono ?_
  intro e w2 hp
  obtain ⟨A1, c1, rfl, hc1, hr1, hb2⟩ := hp.get
  have HR1 := Lib.hid hr1
  clear hr1 hp
  go_wp2_with fail
  refine (Shl_c A1 c1 a j w2.heap.size w2 HJ.out HR1.out (Nat.le_refl _)).mono ?_
  intro e w3 hp
  obtain ⟨A2, c2, rfl, hc2, hr2, hb3⟩ := hp.get
  have HR2 := Lib.hid hr2
  clear hr2 hp
  go_wp2_with fail
  refine (made_c A2 c2 (a * 2 ^ j) w3.heap.size w3 (by have := hwm.out; omega) HR2.out (Nat.le_refl _)).mono ?_
  rintro e w4 ⟨rfl, hb4⟩
  go_wp2_with fail
  go_ret2
  exact ⟨by rw [R1.out, R2.out]; rfl, below_chain hb1 (below_chain hb2 (below_chain hb3 hb4))⟩
end Go.Proofs.YtamcnnocjelcjaaGreatDoor
namespace Go.Proofs.YtamcnnocjelcjaaGreatDoor
open Go Go.RowKit Nt
theorem byte_bit (n q r : Nat) (hr : r < 8) : dgt 256 n q / 2 ^ r % 2 = dgt 2 n (8 * q + r) := by
  have := dgt_in (b := 2) (e := 8) (by omega) n q r hr
  rw [show (2 : Nat) ^ 8 = 256 from rfl, dgt_def 2 (dgt 256 n q)] at this
  exact this
theorem and_one_u8 (q : Nat) (hq : q < 256) : bits BinOp.and IntKind.u8 (q : Int) 1 = ((q % 2 : Nat) : Int) := by
  have h1 : (BitVec.ofInt 8 (q : Int)).toNat = q := by
    rw [BitVec.ofInt_natCast, BitVec.toNat_ofNat]; exact Nat.mod_eq_of_lt (by omega)
  have h2 : (BitVec.ofInt 8 (1 : Int)).toNat = 1 := by decide
  show IntKind.u8.wrap ((BitVec.ofInt 8 (q : Int) &&& BitVec.ofInt 8 (1 : Int)).toNat : Int) = _
  rw [BitVec.toNat_and, h1, h2, Nat.and_one_is_mod, wrap_u8]
  omega
end Go.Proofs.YtamcnnocjelcjaaGreatDoor
namespace Go.Proofs.YtamcnnocjelcjaaGreatDoor
open Go Go.RowKit Nt
def DOk (g : Bool) (s : ByteArray) (x : Int) : Prop := (s = ⟨#[]⟩ ∧ g = false ∧ x = 0) ∨ ∃ n, fits n ∧ n % 2 = 1 ∧ s = natS n ∧ -1048576 ≤ x ∧ x ≤ 1048576
theorem dFull {s : ByteArray} (h : 0 < s.size) : ¬ s.toList = [] := fun c => by
  rw [ba_toList] at c
  have : s.data.toList.length = 0 := by rw [c]; rfl
  rw [Array.length_toList] at this
  have h2 : s.size = s.data.size := rfl
  omega
theorem dFull2 {s : ByteArray} (h : 0 < s.size) : s.toList.isEmpty = false := by
  have := dFull h
  cases h2 : s.toList with
  | nil => exact absurd h2 this
  | cons x l => rfl
theorem ba_nil {s : ByteArray} (h : s.size = 0) : s = ⟨#[]⟩ := by
  obtain ⟨d⟩ := s
  have : d = #[] := Array.eq_empty_of_size_eq_zero h
  rw [this]
theorem last_odd (n : Nat) (h : 0 < (natS n).size) : ((natS n)[(natS n).size - 1]'(by omega)).toNat % 2 = n % 2 := by
  have e := natS_get n ((natS n).size - 1) (by omega)
  rw [e, natS_size, show nd 256 n - 1 - (nd 256 n - 1) = 0 by omega, dgt_def, Nat.pow_zero, Nat.div_one]
  omega
theorem odd_ne {n : Nat} (h : n % 2 = 1) : n ≠ 0 := fun c => by rw [c] at h; omega
theorem odd_size {n : Nat} (h : n % 2 = 1) : 0 < (natS n).size := by
  rw [natS_size]
  rcases Nat.eq_zero_or_pos (nd 256 n) with c | c
  · exact absurd ((nd_eq_zero (by omega)).1 c) (odd_ne h)
  · exact c
theorem dbad {g : Bool} {s : ByteArray} {x : Int} (h : ¬ DOk g s x) :
    (s = ⟨#[]⟩ ∧ (g = true ∨ x ≠ 0)) ∨ ∃ hs : 0 < s.size, (s[s.size - 1]'(by omega)).toNat % 2 = 0 ∨ ((s[s.size - 1]'(by omega)).toNat % 2 = 1 ∧ (¬ May s ∨ (May s ∧ (x < -1048576 ∨ 1048576 < x)))) := by
  by_cases h0 : s.size = 0
  · refine Or.inl ⟨ba_nil h0, ?_⟩
    cases g with
    | true => exact Or.inl rfl
    | false => exact Or.inr fun c => h (Or.inl ⟨ba_nil h0, rfl, c⟩)
  · refine Or.inr ⟨by omega, ?_⟩
    by_cases h1 : (s[s.size - 1]'(by omega)).toNat % 2 = 0
    · exact Or.inl h1
    · refine Or.inr ⟨by omega, ?_⟩
      by_cases hm : May s
      · refine Or.inr ⟨hm, ?_⟩
        by_cases h2 : x < -1048576
        · exact Or.inl h2
        · by_cases h3 : 1048576 < x
          · exact Or.inr h3
          · obtain ⟨n, hf, rfl⟩ := may_num hm
            have := last_odd n (by omega)
            exact absurd (Or.inr ⟨n, hf, by omega, rfl, by omega, by omega⟩) h
      · exact Or.inl hm
theorem u8_and0 {q : Nat} (hq : q < 256) (h : q % 2 = 0) : bits BinOp.and IntKind.u8 (q : Int) 1 = 0 := by rw [and_one_u8 q hq, h]; rfl
theorem u8_and1 {q : Nat} (hq : q < 256) (h : q % 2 = 1) : bits BinOp.and IntKind.u8 (q : Int) 1 = 1 := by rw [and_one_u8 q hq, h]; rfl
theorem bcell {W w1 : World} (hb : Below W.heap.size W w1) : (∀ b o, b < W.heap.size → w1.cell? ⟨b, o, none⟩ = W.cell? ⟨b, o, none⟩) ∧ (∀ b o, b < W.heap.size → w1.frozen? ⟨b, o, none⟩ = W.frozen? ⟨b, o, none⟩) :=
  ⟨fun b o h => hb.cell (p := ⟨b, o, none⟩) h, fun b o h => hb.frozen (p := ⟨b, o, none⟩) h⟩
theorem box_below {w w1 : World} {b : Obj} (hb : Below (w.alloc b).heap.size (w.alloc b) w1) : Below w.heap.size w w1 := ((Below.refl _ _).alloc (Nat.le_refl _) _).trans (hb.mono (by simp))
set_option maxRecDepth 100000 in
theorem DCheck_zero (w : World) : Calls Tryz.prog 40 #[.agg #[.bool false, .string ⟨#[]⟩, .int .i64 0]] w fun e w' => e = .returned (.int .i64 0) ∧ Below w.heap.size w w' := by
  go_enter Tryz.func40, Tryz.ntmps40
  go_wp2
  go_ret
  exact ⟨rfl, (Below.refl _ _).alloc (Nat.le_refl _) _⟩
theorem last_and (n : Nat) (ho : n % 2 = 1) (h : nd 256 n - 1 < (natS n).size) : bits BinOp.and IntKind.u8 (((natS n)[nd 256 n - 1]'h).toNat : Int) 1 = 1 := by
  refine u8_and1 ((natS n)[nd 256 n - 1]'h).toNat_lt ?_
  have hp := odd_size ho
  have := last_odd n hp
  simp only [natS_size] at this
  rw [this, ho]
set_option maxRecDepth 100000 in
theorem DCheck_num (g : Bool) (n : Nat) (x : Int) (w : World) (hf : fits n) (ho : n % 2 = 1) (h1 : -1048576 ≤ x) (h2 : x ≤ 1048576) :
    Calls Tryz.prog 40 #[.agg #[.bool g, .string (natS n), .int .i64 x]] w fun e w' => e = .returned (.int .i64 0) ∧ Below w.heap.size w w' := by
  have hm := may1 hf
  have hE := natS_full (odd_ne ho)
  have hE2 := natS_full2 (odd_ne ho)
  have hsz := natS_size n
  have hL : nd 256 n ≤ 16384 := hf
  have hp := odd_size ho
  have hl := last_and n ho (by omega)
  have HO := Lib.hid ho
  clear ho
  go_enter Tryz.func40, Tryz.ntmps40
  go_wp2_with (go_at_call 68; refine (Check_c _ _).mono ?_; rintro e w1 ⟨rfl, hb⟩; obtain ⟨hc, hfz⟩ := bcell hb)
  go_ret
  exact ⟨rfl, box_below hb⟩
set_option maxRecDepth 100000 in
theorem DCheck_bad (g : Bool) (s : ByteArray) (x : Int) (w : World) (hs : s.size ≤ 9223372036854775807) (h : ¬ DOk g s x) :
    Calls Tryz.prog 40 #[.agg #[.bool g, .string s, .int .i64 x]] w fun e w' => e = .returned (.int .i64 2) ∧ Below w.heap.size w w' := by
  rcases dbad h with ⟨rfl, hz⟩ | ⟨hp, hz⟩
  · clear h hs
    have hz2 : g = true ∨ (g = false ∧ (x == 0) = false ∧ ¬ x = 0) := by
      rcases hz with rfl | hz
      · exact Or.inl rfl
      · cases g
        · exact Or.inr ⟨rfl, by simpa using hz, hz⟩
        · exact Or.inl rfl
    clear hz
    rcases hz2 with rfl | ⟨rfl, hx, hx2⟩
    all_goals
      go_enter Tryz.func40, Tryz.ntmps40
      go_wp2
      go_ret
      exact ⟨rfl, (Below.refl _ _).alloc (Nat.le_refl _) _⟩
  · have hE := dFull hp
    have hE2 := dFull2 hp
    clear h
    rcases hz with hz | ⟨hz, hm | ⟨hm, hx⟩⟩
    · have hl : bits BinOp.and IntKind.u8 ((s[s.size - 1]'(by omega)).toNat : Int) 1 = 0 := u8_and0 (s[s.size - 1]'(by omega)).toNat_lt hz
      clear hz
      go_enter Tryz.func40, Tryz.ntmps40
      go_wp2
      go_ret
      exact ⟨rfl, (Below.refl _ _).alloc (Nat.le_refl _) _⟩
    · have hl : bits BinOp.and IntKind.u8 ((s[s.size - 1]'(by omega)).toNat : Int) 1 = 1 := u8_and1 (s[s.size - 1]'(by omega)).toNat_lt hz
      have hm' := may1_no hm
      clear hz hm
      go_enter Tryz.func40, Tryz.ntmps40
      go_wp2_with (go_at_call 68; refine (Check_c _ _).mono ?_; rintro e w1 ⟨rfl, hb⟩; obtain ⟨hc, hfz⟩ := bcell hb)
      go_ret
      exact ⟨rfl, box_below hb⟩
    · have hl : bits BinOp.and IntKind.u8 ((s[s.size - 1]'(by omega)).toNat : Int) 1 = 1 := u8_and1 (s[s.size - 1]'(by omega)).toNat_lt hz
      have hm' : mayE [s] = 0 := mayE_ok fun t ht => by rw [List.mem_singleton.1 ht]; exact hm
      clear hz hm
      rcases hx with hx | hx
      all_goals
        go_enter Tryz.func40, Tryz.ntmps40
        go_wp2_with (go_at_call 68; refine (Check_c _ _).mono ?_; rintro e w1 ⟨rfl, hb⟩; obtain ⟨hc, hfz⟩ := bcell hb)
        go_ret
        exact ⟨rfl, box_below hb⟩
end Go.Proofs.YtamcnnocjelcjaaGreatDoor
namespace Go.Proofs.YtamcnnocjelcjaaGreatDoor
open Go Go.RowKit Nt
@[irreducible] def sgnI (g : Bool) : Int := if g then -1 else 1
theorem sgn_t : sgnI true = -1 := by unfold sgnI; rfl
theorem sgn_f : sgnI false = 1 := by unfold sgnI; rfl
set_option maxRecDepth 100000 in
theorem DSign_zero (w : World) : Calls Tryz.prog 36 #[.agg #[.bool false, .string ⟨#[]⟩, .int .i64 0]] w fun e w' => e = .returned (.int .i64 0) ∧ Below w.heap.size w w' := by
  go_enter Tryz.func36, Tryz.ntmps36
  go_wp2_with (go_at_call 40; refine (DCheck_zero _).mono ?_; rintro e w1 ⟨rfl, hb⟩; obtain ⟨hc, hfz⟩ := bcell hb)
  go_ret
  exact ⟨rfl, box_below hb⟩
set_option maxRecDepth 100000 in
theorem DSign_num (g : Bool) (n : Nat) (x : Int) (w : World) (hf : fits n) (ho : n % 2 = 1) (h1 : -1048576 ≤ x) (h2 : x ≤ 1048576) :
    Calls Tryz.prog 36 #[.agg #[.bool g, .string (natS n), .int .i64 x]] w fun e w' => e = .returned (.int .i64 (sgnI g)) ∧ Below w.heap.size w w' := by
  have hE := natS_full (odd_ne ho)
  have hE2 := natS_full2 (odd_ne ho)
  have HO := Lib.hid ho
  clear ho
  cases g
  all_goals
    go_enter Tryz.func36, Tryz.ntmps36
    go_wp2_with (go_at_call 40; refine (DCheck_num _ _ _ _ hf HO.out h1 h2).mono ?_; rintro e w1 ⟨rfl, hb⟩; obtain ⟨hc, hfz⟩ := bcell hb)
    go_ret
  · exact ⟨by rw [sgn_f]; rfl, box_below hb⟩
  · exact ⟨by rw [sgn_t]; rfl, box_below hb⟩
theorem bits_131072' {n : Nat} (h : fits n) : nd 2 n ≤ 131072 := by
  have := (bits_le n 16384).2 h; omega
theorem sgn_ne (g : Bool) : (sgnI g == 0) = false := by cases g <;> simp [sgn_t, sgn_f]
theorem sgn_ne2 (g : Bool) : ¬ sgnI g = 0 := by cases g <;> simp [sgn_t, sgn_f]
set_option maxRecDepth 100000 in
theorem DTop_num (g : Bool) (n : Nat) (x : Int) (w : World) (hf : fits n) (ho : n % 2 = 1) (h1 : -1048576 ≤ x) (h2 : x ≤ 1048576) :
    Calls Tryz.prog 57 #[.agg #[.bool g, .string (natS n), .int .i64 x]] w fun e w' => e = .returned (.tuple #[.int .i64 ((nd 2 n : Nat) - 1 + x), .bool true]) ∧ Below w.heap.size w w' := by
  have HO := Lib.hid ho
  have hb2 := bits_131072' hf
  have hg := sgn_ne g
  have hg2 := sgn_ne2 g
  clear ho
  go_enter Tryz.func57, Tryz.ntmps57
  go_wp2_with (first
    | (go_at_call 36; refine (DSign_num _ _ _ _ hf HO.out h1 h2).mono ?_; rintro e w1 ⟨rfl, hb⟩; obtain ⟨hc, hfz⟩ := bcell hb; have hz : w.heap.size < w1.heap.size := by have := hb.size; simp at this; omega)
    | (go_at_call 95; refine (NLen_c _ _ hf).mono ?_; rintro e w2 ⟨rfl, hb'⟩; obtain ⟨hc', hfz'⟩ := bcell hb'))
  go_ret2
  exact ⟨rfl, (box_below hb).trans (hb'.mono (by omega))⟩
theorem box2 {w w1 : World} {b c : Obj} (hb : Below ((w.alloc b).alloc c).heap.size ((w.alloc b).alloc c) w1) : Below w.heap.size w w1 := (((Below.refl _ _).alloc (Nat.le_refl _) _).alloc (by simp) _).trans (hb.mono (by simp; omega))
theorem sz2 {w w1 : World} {b c : Obj} (hb : Below ((w.alloc b).alloc c).heap.size ((w.alloc b).alloc c) w1) : w.heap.size + 1 < w1.heap.size := by have := hb.size; simp at this; omega
set_option maxRecDepth 100000 in
theorem DNeg_zero (w : World) : Calls Tryz.prog 22 #[.agg #[.bool false, .string ⟨#[]⟩, .int .i64 0]] w fun e w' => e = .returned (.agg #[.bool false, .string ⟨#[]⟩, .int .i64 0]) ∧ Below w.heap.size w w' := by
  go_enter Tryz.func22, Tryz.ntmps22
  go_wp2_with (go_at_call 36; refine (DSign_zero _).mono ?_; rintro e w1 ⟨rfl, hb⟩; obtain ⟨hc, hfz⟩ := bcell hb; have hz := sz2 hb)
  refine bodyPost_ret (v := .agg #[.bool false, .string ⟨#[]⟩, .int .i64 0]) (by simp [results, Tryz.results22, go_sem, hc, hz]) rfl ⟨rfl, ?_⟩
  repeat (refine Below.setCell ?_ (by simp) _)
  exact box2 hb
set_option maxRecDepth 100000 in
theorem DNeg_num (g : Bool) (n : Nat) (x : Int) (w : World) (hf : fits n) (ho : n % 2 = 1) (h1 : -1048576 ≤ x) (h2 : x ≤ 1048576) :
    Calls Tryz.prog 22 #[.agg #[.bool g, .string (natS n), .int .i64 x]] w fun e w' => e = .returned (.agg #[.bool (!g), .string (natS n), .int .i64 x]) ∧ Below w.heap.size w w' := by
  have HO := Lib.hid ho
  have hg := sgn_ne g
  have hg2 := sgn_ne2 g
  clear ho
  go_enter Tryz.func22, Tryz.ntmps22
  go_wp2_with (go_at_call 36; refine (DSign_num _ _ _ _ hf HO.out h1 h2).mono ?_; rintro e w1 ⟨rfl, hb⟩; obtain ⟨hc, hfz⟩ := bcell hb; have hz := sz2 hb; have hc0 : w1.cell? ⟨w.heap.size, 0, none⟩ = some (.bool g) := (hc _ _ (by simp; omega)).trans (by simp [go_sem]); have hs0 : (w1.cell? ⟨w.heap.size, 0, none⟩).isSome = true := (by rw [hc0]; rfl))
  refine bodyPost_ret (v := .agg #[.bool (!g), .string (natS n), .int .i64 x]) (by simp [results, Tryz.results22, go_sem, hc, hz]) rfl ⟨rfl, ?_⟩
  repeat (refine Below.setCell ?_ (by simp) _)
  exact box2 hb
end Go.Proofs.YtamcnnocjelcjaaGreatDoor
namespace Go.Proofs.YtamcnnocjelcjaaGreatDoor
open Go Go.RowKit Nt
theorem Own.take {w : World} {B : Nat} {T : TypeId} {k : IntKind} {A : Option Addr} {L c : Nat} {l : List Nat} (h : Own w B T k (.slice A L c) l) {m : Nat} (hm : m ≤ l.length) : Own w B T k (.slice A m c) (l.take m) := by
  have hl : (l.take m).length = m := by rw [List.length_take]; omega
  unfold Own
  rw [hl]
  refine ⟨by simp; omega, ?_⟩
  rcases h.2 with ⟨e, h0⟩ | ⟨g, cap, cur, e, hB, hh, hn, hmx, hs, ht⟩
  · injection e with e1 e2 e3
    refine Or.inl ⟨?_, by omega⟩
    rw [e1, e3, show m = 0 by omega]
  · injection e with e1 e2 e3
    refine Or.inr ⟨g, cap, cur, by rw [e1, e3], hB, hh, by omega, hmx, hs, ?_⟩
    rw [Nat.mul_one] at ht ⊢
    rw [List.map_take, ← ht, List.take_take, Nat.min_eq_left hm]
end Go.Proofs.YtamcnnocjelcjaaGreatDoor
namespace Go.Proofs.YtamcnnocjelcjaaGreatDoor
open Go Go.RowKit Nt
theorem tz8_spec : ∀ n : Fin 256, n.val ≠ 0 → Lib.trailingZeros8 n.val < 8 ∧ n.val / 2 ^ Lib.trailingZeros8 n.val % 2 = 1 ∧ ∀ j : Fin 8, j.val < Lib.trailingZeros8 n.val → n.val / 2 ^ j.val % 2 = 0 := by decide +kernel
def IsLow (n l : Nat) : Prop := (n = 0 → l = 0) ∧ (n ≠ 0 → dgt 2 n l = 1 ∧ ∀ j, j < l → dgt 2 n j = 0)
theorem low_lt {n l : Nat} (h0 : n ≠ 0) (h : IsLow n l) : l < nd 2 n := by
  rcases Nat.lt_or_ge l (nd 2 n) with h1 | h1
  · exact h1
  · have := dgt_big (b := 2) (by omega) h1; have := (h.2 h0).1; omega
theorem low_unique {n k l : Nat} (hk : IsLow n k) (hl : IsLow n l) : k = l := by
  by_cases h0 : n = 0
  · rw [hk.1 h0, hl.1 h0]
  · obtain ⟨k1, k2⟩ := hk.2 h0
    obtain ⟨l1, l2⟩ := hl.2 h0
    rcases Nat.lt_trichotomy k l with h | h | h
    · have := l2 k h; omega
    · exact h
    · have := k2 l h; omega
theorem low_byte {n q : Nat} (hz : ∀ j, j < q → dgt 256 n j = 0) (hb : dgt 256 n q ≠ 0) : IsLow n (8 * q + Lib.trailingZeros8 (dgt 256 n q)) := by
  have hlt := dgt_lt (b := 256) (by omega) n q
  obtain ⟨t1, t2, t3⟩ := tz8_spec ⟨dgt 256 n q, hlt⟩ hb
  simp only at t1 t2 t3
  have h0 : n ≠ 0 := fun c => hb (by rw [c, dgt_def, Nat.zero_div])
  refine ⟨fun c => absurd c h0, fun _ => ⟨?_, fun j hj => ?_⟩⟩
  · rw [← byte_bit n q _ t1]; exact t2
  · by_cases h : j / 8 < q
    · have e := byte_bit n (j / 8) (j % 8) (by omega)
      rw [show 8 * (j / 8) + j % 8 = j by omega, hz _ h, Nat.zero_div] at e
      exact e.symm
    · have hq : j / 8 = q := by omega
      have e := byte_bit n q (j % 8) (by omega)
      rw [show 8 * q + j % 8 = j by omega] at e
      rw [← e]
      exact t3 ⟨j % 8, by omega⟩ (by show j % 8 < _; omega)
set_option maxRecDepth 100000 in
theorem NLow_c (n l : Nat) (w : World) (hf : fits n) (hl : IsLow n l) :
    Calls Tryz.prog 130 #[.string (natS n)] w (IntPost (l : Nat) 0 w) := by
  have hm := may1 hf
  have hsz := natS_size n
  have hL : nd 256 n ≤ 16384 := hf
  obtain ⟨N, hN⟩ : ∃ N, N = nd 256 n := ⟨_, rfl⟩
  have hg := fun k (h : k < (natS n).size) => natS_get n k h
  rw [← hN] at hsz hL hg
  have HG := Lib.hid hg
  have HN := Lib.hid hN
  have HL := Lib.hid hl
  clear hN hg hl hf
  go_enter Tryz.func130, Tryz.ntmps130
  go_wp2_with (go_at_call 68; refine (Check_c _ _).mono ?_; rintro e w1 ⟨rfl, hb⟩)
  go_loopw [5] (fun i wr => ∃ (k : Nat) (z : Int), k ≤ N ∧ i = .int .i64 z ∧ Hid (z = (k : Int) - 1) ∧ Hid (∀ j, j < N - k → dgt 256 n j = 0) ∧ Below w.heap.size w wr) (fun i _ => (intOf i + 1).toNat)
  case atStart => exact ⟨N, _, Nat.le_refl _, rfl, Lib.hid (by first | rfl | omega | go_num), Lib.hid (fun j h => by omega), hb⟩
  case round =>
    obtain ⟨k, z, hk, rfl, hz, hj, hbw⟩ := hrel
    by_cases h0 : k = 0
    · subst h0
      obtain rfl : z = -1 := by have := hz.out; omega
      have HZ := Lib.hid (show l = 0 by
        refine HL.out.1 ((nd_eq_zero (b := 256) (by omega)).1 ?_)
        rcases Nat.eq_zero_or_pos (nd 256 n) with c | c
        · exact c
        · have h1 := dgt_top (b := 256) (n := n) (by omega) (fun d => by rw [d, nd_zero] at c; omega)
          exact absurd (hj.out (nd 256 n - 1) (by have := HN.out; omega)) h1)
      go_wp2
      go_ret2
      exact ⟨by rw [HZ.out]; rfl, hbw⟩
    · obtain ⟨m, rfl⟩ : ∃ m, k = m + 1 := ⟨k - 1, by omega⟩
      obtain rfl : z = (m : Int) := by have := hz.out; omega
      have hms : m < (natS n).size := by omega
      have e := HG.out m hms
      have hlt := (natS n)[m].toNat_lt
      have hw : wrap64 ((m : Int) - 1) = (m : Int) - 1 := IntWalk.wrap64_in _ (by omega)
      by_cases h1 : (natS n)[m].toNat = 0
      · have h1' := nne_false h1
        have HJ := Lib.hid (show ∀ j, j < N - m → dgt 256 n j = 0 from fun j hj2 => by
          by_cases c : j = N - 1 - m
          · rw [c, ← e]; exact h1
          · exact hj.out j (by omega))
        clear h1 e
        go_wp2
        go_roundw
        case rel => exact ⟨m, _, by omega, rfl, Lib.hid rfl, HJ, hbw⟩
        case measure => simp [intOf]; try omega
      · have h1' := nne_true h1
        have hlo := low_byte (n := n) (q := N - 1 - m) (fun j h => hj.out j (by omega)) (by rw [← e]; exact h1)
        rw [← e] at hlo
        obtain ⟨t, ht⟩ : ∃ t, t = Lib.trailingZeros8 (natS n)[m].toNat := ⟨_, rfl⟩
        have ht8 : t ≤ 8 := by rw [ht]; exact Lib.trailingZeros8_le8 ⟨(natS n)[m].toNat, hlt⟩
        have ht2 : ∀ w, Calls Tryz.prog 138 #[.int .u8 ((natS n)[m].toNat : Nat)] w fun e w' => e = .returned (.int .i64 (t : Nat)) ∧ w = w' := fun w => by
          refine (Tryz.bits_TrailingZeros8 _ _ (by omega) (by omega)).mono ?_
          rintro e w' ⟨rfl, rfl⟩
          exact ⟨by rw [Int.toNat_natCast, ← ht], rfl⟩
        rw [← ht] at hlo
        have hfin := low_unique HL.out hlo
        obtain ⟨q, hq⟩ : ∃ q, q = N - 1 - m := ⟨_, rfl⟩
        rw [← hq] at hfin
        have hqI : (N : Int) - 1 - (m : Int) = (q : Int) := by omega
        have HF := Lib.hid hfin
        have K := Lib.hid ht2
        have hqN : q ≤ 16384 := by omega
        clear h1 e hlo ht ht2 hfin hq
        go_wp2_with (go_at_call 138; refine (K.out _).mono ?_; rintro e w' ⟨rfl, rfl⟩)
        go_ret2
        exact ⟨by rw [HF.out]; congr 1, hbw⟩
end Go.Proofs.YtamcnnocjelcjaaGreatDoor
namespace Go.Proofs.YtamcnnocjelcjaaGreatDoor
open Go Go.RowKit Nt
def lowN (n : Nat) : Nat := if h : n = 0 ∨ n % 2 = 1 then 0 else lowN (n / 2) + 1
termination_by n
decreasing_by omega
theorem lowN_odd {n : Nat} (h : n % 2 = 1) : lowN n = 0 := by unfold lowN; rw [dif_pos (Or.inr h)]
theorem lowN_zero : lowN 0 = 0 := by unfold lowN; rw [dif_pos (Or.inl rfl)]
theorem lowN_even {n : Nat} (h0 : n ≠ 0) (h : n % 2 = 0) : lowN n = lowN (n / 2) + 1 := by
  have e : ¬ (n = 0 ∨ n % 2 = 1) := fun c => by rcases c with c | c; exact h0 c; omega
  rw [lowN.eq_1 n, dif_neg e]
theorem lowN_ex (n : Nat) (h0 : n ≠ 0) : ∃ o, o % 2 = 1 ∧ n = o * 2 ^ lowN n := by
  induction n using Nat.strongRecOn with
  | ind n ih =>
    by_cases h : n % 2 = 1
    · exact ⟨n, h, by rw [lowN_odd h, Nat.pow_zero, Nat.mul_one]⟩
    · obtain ⟨o, ho, e⟩ := ih (n / 2) (by omega) (by omega)
      refine ⟨o, ho, ?_⟩
      rw [lowN_even h0 (by omega), Nat.pow_succ, ← Nat.mul_assoc, ← e]; omega
def odN (n : Nat) : Nat := n / 2 ^ lowN n
theorem odN_spec {n : Nat} (h0 : n ≠ 0) : odN n % 2 = 1 ∧ n = odN n * 2 ^ lowN n := by
  obtain ⟨o, ho, e⟩ := lowN_ex n h0
  have e2 : odN n = o := by
    unfold odN
    generalize lowN n = k at *
    rw [e, Nat.mul_div_cancel _ (Nat.two_pow_pos _)]
  rw [e2]; exact ⟨ho, e⟩
theorem odN_pos {n : Nat} (h0 : n ≠ 0) : odN n ≠ 0 := odd_ne (odN_spec h0).1
theorem odd_pow {o l m k : Nat} (ho : o % 2 = 1) (hm : m % 2 = 1) (h : o * 2 ^ l = m * 2 ^ k) : l = k ∧ o = m := by
  induction l generalizing k with
  | zero =>
    cases k with
    | zero => exact ⟨rfl, by simpa using h⟩
    | succ k => rw [Nat.pow_zero, Nat.mul_one, Nat.pow_succ, ← Nat.mul_assoc] at h; omega
  | succ l ih =>
    cases k with
    | zero => rw [Nat.pow_zero, Nat.mul_one, Nat.pow_succ, ← Nat.mul_assoc] at h; omega
    | succ k =>
      rw [Nat.pow_succ, Nat.pow_succ, ← Nat.mul_assoc, ← Nat.mul_assoc] at h
      obtain ⟨e1, e2⟩ := ih (k := k) (by omega)
      exact ⟨by rw [e1], e2⟩
theorem od_unique {n o l : Nat} (ho : o % 2 = 1) (h : n = o * 2 ^ l) : lowN n = l ∧ odN n = o := by
  have h0 : n ≠ 0 := fun c => by
    rw [c] at h
    rcases Nat.mul_eq_zero.1 h.symm with c | c
    · exact odd_ne ho c
    · exact absurd c (Nat.pos_iff_ne_zero.1 (Nat.two_pow_pos l))
  obtain ⟨h1, h2⟩ := odN_spec h0
  exact odd_pow h1 ho (h2.symm.trans h)
theorem od_mul {n : Nat} (h0 : n ≠ 0) (k : Nat) : lowN (n * 2 ^ k) = lowN n + k ∧ odN (n * 2 ^ k) = odN n := by
  obtain ⟨h1, h2⟩ := odN_spec h0
  refine od_unique h1 ?_
  rw [Nat.pow_add, ← Nat.mul_assoc, ← h2]
theorem odN_odd {n : Nat} (h : n % 2 = 1) : odN n = n := (od_unique (l := 0) h (by rw [Nat.pow_zero, Nat.mul_one])).2
theorem odN_zero : odN 0 = 0 := by unfold odN; rw [Nat.zero_div]
theorem lowN_is (n : Nat) : IsLow n (lowN n) := by
  refine ⟨fun c => by rw [c, lowN_zero], fun h0 => ?_⟩
  obtain ⟨h1, h2⟩ := odN_spec h0
  refine ⟨?_, fun j hj => ?_⟩
  · rw [dgt_def]; exact h1
  · rw [dgt_def, h2, show lowN n = j + (lowN n - j) by omega, Nat.pow_add, Nat.mul_left_comm, Nat.mul_div_cancel_left _ (Nat.two_pow_pos j), show lowN n - j = (lowN n - j - 1) + 1 by omega, Nat.pow_succ, ← Nat.mul_assoc]
    omega
theorem odN_le (n : Nat) : odN n ≤ n := Nat.div_le_self _ _
theorem nd_odN {n : Nat} (h0 : n ≠ 0) : nd 2 n = nd 2 (odN n) + lowN n := by
  have h := nd_mul_pow (j := lowN n) (odN_pos h0)
  rwa [← (odN_spec h0).2] at h
structure Dy where
  g : Bool
  n : Nat
  x : Int
def Dy.v (d : Dy) : Value := .agg #[.bool d.g, .string (natS d.n), .int .i64 d.x]
def Dy.zero : Dy := ⟨false, 0, 0⟩
def Dy.Num (d : Dy) : Prop := fits d.n ∧ d.n % 2 = 1 ∧ -1048576 ≤ d.x ∧ d.x ≤ 1048576
def Dy.Ok (d : Dy) : Prop := d = Dy.zero ∨ d.Num
theorem Dy.zero_v : Dy.zero.v = .agg #[.bool false, .string ⟨#[]⟩, .int .i64 0] := by unfold Dy.v Dy.zero; rw [natS_zero]
theorem fits_zero : fits 0 := by unfold fits; rw [nd_zero]; omega
theorem DOk_dy {g : Bool} {s : ByteArray} {x : Int} (h : DOk g s x) : ∃ d : Dy, d.Ok ∧ g = d.g ∧ s = natS d.n ∧ x = d.x := by
  rcases h with ⟨rfl, rfl, rfl⟩ | ⟨n, hf, ho, rfl, h1, h2⟩
  · exact ⟨Dy.zero, Or.inl rfl, rfl, natS_zero.symm, rfl⟩
  · exact ⟨⟨g, n, x⟩, Or.inr ⟨hf, ho, h1, h2⟩, rfl, rfl, rfl⟩
def mkOk3 (n : Nat) (x : Int) : Prop := n = 0 ∨ (fits (odN n) ∧ -1048576 ≤ x + lowN n ∧ x + lowN n ≤ 1048576)
instance (n : Nat) (x : Int) : Decidable (mkOk3 n x) := by unfold mkOk3 fits; exact inferInstance
@[irreducible] def mkD (g : Bool) (n : Nat) (x : Int) : Dy := if n ≠ 0 ∧ mkOk3 n x then ⟨g, odN n, x + lowN n⟩ else Dy.zero
@[irreducible] def mkE (n : Nat) (x : Int) : Int := if mkOk3 n x then 0 else 4
theorem mkD_zero (g : Bool) (x : Int) : mkD g 0 x = Dy.zero := by unfold mkD; rw [if_neg (fun c => c.1 rfl)]
theorem mkE_zero (x : Int) : mkE 0 x = 0 := by unfold mkE; exact if_pos (Or.inl rfl)
theorem mkD_ok {g : Bool} {n : Nat} {x : Int} (h0 : n ≠ 0) (h : mkOk3 n x) : mkD g n x = ⟨g, odN n, x + lowN n⟩ := by unfold mkD; rw [if_pos ⟨h0, h⟩]
theorem mkE_ok {n : Nat} {x : Int} (h : mkOk3 n x) : mkE n x = 0 := by unfold mkE; rw [if_pos h]
theorem mkD_no {g : Bool} {n : Nat} {x : Int} (h : ¬ mkOk3 n x) : mkD g n x = Dy.zero := by unfold mkD; rw [if_neg (fun c => h c.2)]
theorem mkE_no {n : Nat} {x : Int} (h : ¬ mkOk3 n x) : mkE n x = 4 := by unfold mkE; rw [if_neg h]
theorem mkD_Ok (g : Bool) (n : Nat) (x : Int) : (mkD g n x).Ok := by
  by_cases h0 : n = 0
  · subst h0; rw [mkD_zero]; exact Or.inl rfl
  · by_cases h : mkOk3 n x
    · rw [mkD_ok h0 h]
      rcases h with h | ⟨h1, h2, h3⟩
      · exact absurd h h0
      · exact Or.inr ⟨h1, (odN_spec h0).1, h2, h3⟩
    · rw [mkD_no h]; exact Or.inl rfl
theorem mkOk3_shift {n : Nat} (k : Nat) {x : Int} : mkOk3 (n * 2 ^ k) (x - k) ↔ mkOk3 n x := by
  by_cases h0 : n = 0
  · subst h0; rw [Nat.zero_mul]; exact ⟨fun _ => Or.inl rfl, fun _ => Or.inl rfl⟩
  · have h1 : n * 2 ^ k ≠ 0 := fun c => by
      rcases Nat.mul_eq_zero.1 c with c | c
      · exact h0 c
      · exact absurd c (Nat.pos_iff_ne_zero.1 (Nat.two_pow_pos k))
    obtain ⟨e1, e2⟩ := od_mul h0 k
    unfold mkOk3
    rw [e1, e2]
    have e : x - (k : Int) + ((lowN n + k : Nat) : Int) = x + lowN n := by omega
    rw [e]
    exact ⟨fun h => h.elim (fun c => absurd c h1) Or.inr, fun h => h.elim (fun c => absurd c h0) Or.inr⟩
theorem mkD_shift (g : Bool) (n k : Nat) (x : Int) : mkD g (n * 2 ^ k) (x - k) = mkD g n x ∧ mkE (n * 2 ^ k) (x - k) = mkE n x := by
  by_cases h0 : n = 0
  · subst h0; rw [Nat.zero_mul, mkD_zero, mkD_zero, mkE_zero, mkE_zero]; exact ⟨rfl, rfl⟩
  · have h1 : n * 2 ^ k ≠ 0 := fun c => by
      rcases Nat.mul_eq_zero.1 c with c | c
      · exact h0 c
      · exact absurd c (Nat.pos_iff_ne_zero.1 (Nat.two_pow_pos k))
    obtain ⟨e1, e2⟩ := od_mul h0 k
    by_cases h : mkOk3 n x
    · rw [mkD_ok h1 ((mkOk3_shift k).2 h), mkD_ok h0 h, mkE_ok ((mkOk3_shift k).2 h), mkE_ok h, e1, e2]
      refine ⟨?_, rfl⟩
      congr 1; omega
    · have h' : ¬ mkOk3 (n * 2 ^ k) (x - k) := fun c => h ((mkOk3_shift k).1 c)
      rw [mkD_no h', mkD_no h, mkE_no h', mkE_no h]; exact ⟨rfl, rfl⟩
theorem mkD_self {d : Dy} (h : d.Num) : mkD d.g d.n d.x = d ∧ mkE d.n d.x = 0 := by
  obtain ⟨h1, h2, h3, h4⟩ := h
  have e1 := lowN_odd h2
  have e2 := odN_odd h2
  have hk : mkOk3 d.n d.x := Or.inr ⟨by rw [e2]; exact h1, by rw [e1]; omega, by rw [e1]; omega⟩
  rw [mkD_ok (odd_ne h2) hk, mkE_ok hk, e1, e2]
  refine ⟨?_, rfl⟩
  obtain ⟨g, n, x⟩ := d
  simp
end Go.Proofs.YtamcnnocjelcjaaGreatDoor
namespace Go.Proofs.YtamcnnocjelcjaaGreatDoor
open Go Go.RowKit Nt
theorem wr_pow {d s r : Nat} (hs : 2 ^ r = s) : (d : Int) * 2 ^ r = ((d * s : Nat) : Int) := by rw [int_pow2, hs, Int.natCast_mul]
end Go.Proofs.YtamcnnocjelcjaaGreatDoor
namespace Go.Proofs.YtamcnnocjelcjaaGreatDoor
open Go Go.RowKit Nt
def MkPost (g : Bool) (n : Nat) (x : Int) (w : World) (e : Ending) (w' : World) : Prop := e = .returned (.tuple #[(mkD g n x).v, .int .i64 (mkE n x)]) ∧ Below w.heap.size w w'
theorem MkPost.no {g : Bool} {n : Nat} {x : Int} (h : ¬ mkOk3 n x) {w : World} {e : Ending} {w' : World} (he : e = .returned (.tuple #[.agg #[.bool false, .string ⟨#[]⟩, .int .i64 0], .int .i64 4])) (hb : Below w.heap.size w w') : MkPost g n x w e w' := by
  unfold MkPost
  rw [mkD_no h, mkE_no h, Dy.zero_v]
  exact ⟨he, hb⟩
theorem MkPost.zero {g : Bool} {x : Int} {w : World} {e : Ending} {w' : World} (he : e = .returned (.tuple #[.agg #[.bool false, .string ⟨#[]⟩, .int .i64 0], .int .i64 0])) (hb : Below w.heap.size w w') : MkPost g 0 x w e w' := by
  unfold MkPost
  rw [mkD_zero, mkE_zero, Dy.zero_v]
  exact ⟨he, hb⟩
theorem MkPost.ok {g : Bool} {n : Nat} {x : Int} (h0 : n ≠ 0) (h : mkOk3 n x) {w : World} {e : Ending} {w' : World} (he : e = .returned (.tuple #[.agg #[.bool g, .string (natS (odN n)), .int .i64 (x + lowN n)], .int .i64 0])) (hb : Below w.heap.size w w') : MkPost g n x w e w' := by
  unfold MkPost
  rw [mkD_ok h0 h, mkE_ok h]
  exact ⟨he, hb⟩
theorem box1 {w w1 : World} {b : Obj} (hb : Below (w.alloc b).heap.size (w.alloc b) w1) : w.heap.size < w1.heap.size := by have := hb.size; simp at this; omega
end Go.Proofs.YtamcnnocjelcjaaGreatDoor
namespace Go.Proofs.YtamcnnocjelcjaaGreatDoor
open Go Go.RowKit Nt
set_option maxRecDepth 100000 in
theorem DMake_zero (g : Bool) (x : Int) (w : World) :
    Calls Tryz.prog 108 #[.bool g, .string (natS 0), .int .i64 x] w (MkPost g 0 x w) := by
  have K := Lib.hid (fun w => NLow_c 0 0 w fits_zero ⟨fun _ => rfl, fun c => absurd rfl c⟩)
  rw [natS_zero] at K ⊢
  go_enter Tryz.func108, Tryz.ntmps108
  go_wp2_with (go_at_call 130; refine (K.out _).mono ?_; rintro e w1 ⟨rfl, hb⟩; obtain ⟨hcl, hfz⟩ := bcell hb; have hsz := box1 hb)
  refine bodyPost_ret (v := .tuple #[.agg #[.bool false, .string ⟨#[]⟩, .int .i64 0], .int .i64 0]) (by simp [results, Tryz.results108, go_sem, hcl, hsz]) rfl (MkPost.zero rfl ?_)
  repeat (refine Below.setCell ?_ (by simp) _)
  exact box_below hb
set_option maxRecDepth 100000 in
set_option maxHeartbeats 1000000 in
theorem DMake_no (g : Bool) (n : Nat) (x : Int) (w : World) (hf : fits n) (h0 : n ≠ 0) (hno : ¬ mkOk3 n x) (hx : -9223372036854775808 ≤ x ∧ x ≤ 9223372036854775807) :
    Calls Tryz.prog 108 #[.bool g, .string (natS n), .int .i64 x] w (MkPost g n x w) := by
  obtain ⟨l, hl⟩ : ∃ l, l = lowN n := ⟨_, rfl⟩
  have hll := low_lt h0 (lowN_is n)
  have hbb := bits_131072' hf
  have K := Lib.hid (fun w => NLow_c n l w hf (hl ▸ lowN_is n))
  have hE := natS_full h0
  have hE2 := natS_full2 h0
  have hlb : l ≤ 131072 := by omega
  have hcase : 1048576 < x ∨ (¬ 1048576 < x ∧ x < -1179648) ∨ (¬ 1048576 < x ∧ ¬ x < -1179648 ∧ 1048576 < x + (l : Int)) ∨ (¬ 1048576 < x ∧ ¬ x < -1179648 ∧ ¬ 1048576 < x + (l : Int) ∧ x + (l : Int) < -1048576) := by
    have ho : fits (odN n) := by unfold fits at *; exact Nat.le_trans (nd_mono (by omega) (odN_le n)) hf
    unfold mkOk3 at hno
    rw [← hl] at hno
    by_cases c1 : 1048576 < x
    · exact Or.inl c1
    by_cases c2 : x < -1179648
    · exact Or.inr (Or.inl ⟨c1, c2⟩)
    by_cases c3 : 1048576 < x + (l : Int)
    · exact Or.inr (Or.inr (Or.inl ⟨c1, c2, c3⟩))
    by_cases c4 : x + (l : Int) < -1048576
    · exact Or.inr (Or.inr (Or.inr ⟨c1, c2, c3, c4⟩))
    · exact absurd (Or.inr ⟨ho, by omega, by omega⟩) hno
  have HNO := Lib.hid hno
  clear hno hl hll hbb hf h0
  rcases hcase with c1 | ⟨c1, c2⟩ | ⟨c1, c2, c3⟩ | ⟨c1, c2, c3, c4⟩
  all_goals
    go_enter Tryz.func108, Tryz.ntmps108
    go_wp2_with (go_at_call 130; refine (K.out _).mono ?_; rintro e w1 ⟨rfl, hb⟩; obtain ⟨hcl, hfz⟩ := bcell hb; have hsz := box1 hb)
    refine bodyPost_ret (v := .tuple #[.agg #[.bool false, .string ⟨#[]⟩, .int .i64 0], .int .i64 4]) (by simp [results, Tryz.results108, go_sem, hcl, hsz]) rfl (MkPost.no HNO.out rfl ?_)
    repeat (refine Below.setCell ?_ (by simp) _)
    exact box_below hb
set_option maxRecDepth 100000 in
set_option maxHeartbeats 1000000 in
theorem DMake_ok (g : Bool) (n : Nat) (x : Int) (w : World) (hf : fits n) (h0 : n ≠ 0) (hok : mkOk3 n x) :
    Calls Tryz.prog 108 #[.bool g, .string (natS n), .int .i64 x] w (MkPost g n x w) := by
  obtain ⟨l, hl⟩ : ∃ l, l = lowN n := ⟨_, rfl⟩
  obtain ⟨o, ho⟩ : ∃ o, o = odN n := ⟨_, rfl⟩
  have hll := low_lt h0 (lowN_is n)
  rw [← hl] at hll
  have hbb := bits_131072' hf
  have K := Lib.hid (fun w => NLow_c n l w hf (hl ▸ lowN_is n))
  have KS : Hid (0 < l → ∀ w, Calls Tryz.prog 58 #[.string (natS n), .int .i64 (-(l : Int))] w (StrPost (natS o) 0 w)) := Lib.hid fun hl0 w => by
    have := NShift_down n l w hf h0 hl0 hll
    rw [hl] at this ⊢
    rw [ho]; exact this
  have hE := natS_full h0
  have hE2 := natS_full2 h0
  have hlb : l ≤ 131072 := by omega
  have hcase : ¬ 1048576 < x ∧ ¬ x < -1179648 ∧ ¬ 1048576 < x + (l : Int) ∧ ¬ x + (l : Int) < -1048576 := by
    have hk := hok
    unfold mkOk3 at hk
    rw [← hl] at hk
    rcases hk with hk | ⟨hk1, hk2, hk3⟩
    · exact absurd hk h0
    · exact ⟨by omega, by omega, by omega, by omega⟩
  have HOK := Lib.hid (fun (w' : World) (e : Ending) => @MkPost.ok g n x h0 hok w e w')
  rw [← hl, ← ho] at HOK
  have hon : l = 0 → o = n := fun c => by rw [ho]; unfold odN; rw [← hl, c, Nat.pow_zero, Nat.div_one]
  obtain ⟨c1, c2, c3, c4⟩ := hcase
  have HON := Lib.hid hon
  clear hok hl ho hll hbb hf h0 hon
  rcases Nat.eq_zero_or_pos l with hz | hz
  · subst hz
    obtain rfl := HON.out rfl
    go_enter Tryz.func108, Tryz.ntmps108
    go_wp2_with (go_at_call 130; refine (K.out _).mono ?_; rintro e w1 ⟨rfl, hb⟩; obtain ⟨hcl, hfz⟩ := bcell hb; have hsz := box1 hb)
    refine bodyPost_ret (v := .tuple #[.agg #[.bool g, .string (natS o), .int .i64 (x + ((0 : Nat) : Int))], .int .i64 0]) (by simp [results, Tryz.results108, go_sem, hcl, hsz]) rfl (HOK.out _ _ rfl ?_)
    repeat (refine Below.setCell ?_ (by simp) _)
    exact box_below hb
  · go_enter Tryz.func108, Tryz.ntmps108
    go_wp2_with (first
      | (go_at_call 130; refine (K.out _).mono ?_; rintro e w1 ⟨rfl, hb⟩)
      | (go_at_call 58; refine (KS.out hz _).mono ?_; rintro e w2 ⟨rfl, hb2⟩; have hb12 := hb.trans (hb2.mono hb.size); obtain ⟨hcl, hfz⟩ := bcell hb12; have hsz := box1 hb12))
    refine bodyPost_ret (v := .tuple #[.agg #[.bool g, .string (natS o), .int .i64 (x + (l : Int))], .int .i64 0]) (by simp [results, Tryz.results108, go_sem, hcl, hsz]) rfl (HOK.out _ _ rfl ?_)
    repeat (refine Below.setCell ?_ (by simp) _)
    exact box_below hb12
theorem DMake_c (g : Bool) (n : Nat) (x : Int) (w : World) (hf : fits n) (hx : -9223372036854775808 ≤ x ∧ x ≤ 9223372036854775807) :
    Calls Tryz.prog 108 #[.bool g, .string (natS n), .int .i64 x] w (MkPost g n x w) := by
  by_cases h0 : n = 0
  · subst h0; exact DMake_zero g x w
  · by_cases hk : mkOk3 n x
    · exact DMake_ok g n x w hf h0 hk
    · exact DMake_no g n x w hf h0 hk hx
end Go.Proofs.YtamcnnocjelcjaaGreatDoor
namespace Go.Proofs.YtamcnnocjelcjaaGreatDoor
open Go Go.RowKit Nt
theorem abs_fits {m : Nat} (h : m < 18446744073709551616) : fits m := by have := br_lt.2 h; unfold fits; omega
theorem neg_words {z : Int} (h1 : -9223372036854775808 ≤ z) (h2 : z < 0) : IntKind.u64.wrap z = z + 18446744073709551616 ∧ IntKind.u64.wrap (-(z + 18446744073709551616)) = (z.natAbs : Int) := by
  rw [IntKind.wrap_u64, IntKind.wrap_u64]; omega
theorem pos_words {z : Int} (h1 : z ≤ 9223372036854775807) (h2 : ¬ z < 0) : IntKind.u64.wrap z = (z.natAbs : Int) := by
  rw [IntKind.wrap_u64]; omega
set_option maxRecDepth 100000 in
set_option maxHeartbeats 1000000 in
theorem DOf_c (z x : Int) (w : World) (hz : -9223372036854775808 ≤ z ∧ z ≤ 9223372036854775807) (hx : -9223372036854775808 ≤ x ∧ x ≤ 9223372036854775807) :
    Calls Tryz.prog 67 #[.int .i64 z, .int .i64 x] w (MkPost (decide (z < 0)) z.natAbs x w) := by
  obtain ⟨m, hm⟩ : ∃ m, m = z.natAbs := ⟨_, rfl⟩
  have hmb : m < 18446744073709551616 := by omega
  have KO := Lib.hid (fun w => Of_n m w hmb)
  have KM := Lib.hid (fun g w => DMake_c g m x w (abs_fits hmb) hx)
  rw [← hm]
  by_cases h0 : z < 0
  · obtain ⟨e1, e2⟩ := neg_words hz.1 h0
    rw [← hm] at e2
    have hd : decide (z < 0) = true := decide_eq_true h0
    rw [hd]
    clear hm hmb hx hz
    go_enter Tryz.func67, Tryz.ntmps67
    go_wp2_with (first
      | (go_at_call 112; refine (KO.out _).mono ?_; rintro e w1 ⟨rfl, hb⟩)
      | (go_at_call 108; refine (KM.out _ _).mono ?_; rintro e w2 ⟨rfl, hb2⟩; have hb12 := hb.trans (hb2.mono hb.size); obtain ⟨hcl, hfz⟩ := bcell hb12; have hsz := box1 hb12; unfold Dy.v))
    refine bodyPost_ret (v := .tuple #[(mkD true m x).v, .int .i64 (mkE m x)]) (by simp [results, Tryz.results67, go_sem, hcl, hsz, Dy.v]) rfl ⟨rfl, ?_⟩
    repeat (refine Below.setCell ?_ (by simp) _)
    exact box_below hb12
  · have e1 := pos_words hz.2 h0
    rw [← hm] at e1
    have hd : decide (z < 0) = false := decide_eq_false h0
    rw [hd]
    clear hm hmb hx hz
    go_enter Tryz.func67, Tryz.ntmps67
    go_wp2_with (first
      | (go_at_call 112; refine (KO.out _).mono ?_; rintro e w1 ⟨rfl, hb⟩)
      | (go_at_call 108; refine (KM.out _ _).mono ?_; rintro e w2 ⟨rfl, hb2⟩; have hb12 := hb.trans (hb2.mono hb.size); obtain ⟨hcl, hfz⟩ := bcell hb12; have hsz := box1 hb12; unfold Dy.v))
    refine bodyPost_ret (v := .tuple #[(mkD false m x).v, .int .i64 (mkE m x)]) (by simp [results, Tryz.results67, go_sem, hcl, hsz, Dy.v]) rfl ⟨rfl, ?_⟩
    repeat (refine Below.setCell ?_ (by simp) _)
    exact box_below hb12
end Go.Proofs.YtamcnnocjelcjaaGreatDoor
namespace Go.Proofs.YtamcnnocjelcjaaGreatDoor
open Go Go.RowKit Nt
structure Dt where
  g : Bool
  s : ByteArray
  x : Int
def Dt.v (t : Dt) : Value := .agg #[.bool t.g, .string t.s, .int .i64 t.x]
def Dt.Ok (t : Dt) : Prop := DOk t.g t.s t.x
theorem Dt.small {t : Dt} (h : t.Ok) : t.s.size ≤ 16384 := by
  rcases h with ⟨h, _⟩ | ⟨n, hf, _, h, _⟩
  · rw [h]; decide
  · rw [h, natS_size]; exact hf
open Classical in
@[irreducible] noncomputable def dE (l : List Dt) : Int := if ∀ t ∈ l, t.Ok then 0 else 2
theorem dE_ok {l : List Dt} (h : ∀ t ∈ l, t.Ok) : dE l = 0 := by unfold dE; rw [if_pos h]
theorem dE_no {l : List Dt} {t : Dt} (h : t ∈ l) (hn : ¬ t.Ok) : dE l = 2 := by unfold dE; rw [if_neg (fun c => hn (c t h))]
theorem DCheck_c (t : Dt) (w : World) (hs : t.s.size ≤ 9223372036854775807) : Calls Tryz.prog 40 #[.agg #[.bool t.g, .string t.s, .int .i64 t.x]] w fun e w' => e = .returned (.int .i64 (dE [t])) ∧ Below w.heap.size w w' := by
  by_cases h : t.Ok
  · rw [dE_ok (fun u hu => by rw [List.mem_singleton.1 hu]; exact h)]
    rcases h with ⟨e1, e2, e3⟩ | ⟨n, hf, ho, e1, h1, h2⟩
    · rw [e1, e2, e3]; exact DCheck_zero w
    · rw [e1]; exact DCheck_num t.g n t.x w hf ho h1 h2
  · rw [dE_no (List.mem_singleton.2 rfl) h]
    exact DCheck_bad t.g t.s t.x w hs h
def Dts (w : World) (A : Option Addr) (l : List Dt) : Prop := 0 < l.length → ∃ ad, A = some ad ∧ ad.block < w.heap.size ∧ ∀ j (h : j < l.length), w.cell? (ad.add (j * 3)) = some (.bool l[j].g) ∧ w.cell? ⟨(ad.add (j * 3)).block, (ad.add (j * 3)).off + 1, none⟩ = some (.string l[j].s) ∧ w.cell? ⟨(ad.add (j * 3)).block, (ad.add (j * 3)).off + 2, none⟩ = some (.int .i64 l[j].x)
theorem Dts.below {w w' : World} {A : Option Addr} {l : List Dt} (h : Dts w A l) (hb : Below w.heap.size w w') : Dts w' A l := fun h0 => by
  obtain ⟨ad, e, hl, hc⟩ := h h0
  refine ⟨ad, e, Nat.lt_of_lt_of_le hl hb.size, fun j hj => ?_⟩
  obtain ⟨c1, c2, c3⟩ := hc j hj
  exact ⟨(hb.cell (p := ad.add (j * 3)) (by rw [block_of_add']; exact hl)).trans c1, (hb.cell (p := ⟨(ad.add (j * 3)).block, (ad.add (j * 3)).off + 1, none⟩) (by show (ad.add (j * 3)).block < _; rw [block_of_add']; exact hl)).trans c2, (hb.cell (p := ⟨(ad.add (j * 3)).block, (ad.add (j * 3)).off + 2, none⟩) (by show (ad.add (j * 3)).block < _; rw [block_of_add']; exact hl)).trans c3⟩
set_option maxRecDepth 100000 in
set_option maxHeartbeats 1000000 in
theorem Dall_c (A : Option Addr) (c : Nat) (l : List Dt) (w : World) (hl : l.length ≤ 9223372036854775807) (hs : ∀ t ∈ l, t.s.size ≤ 9223372036854775807) (h : Dts w A l) :
    Calls Tryz.prog 35 #[.slice A l.length c] w fun e w' => e = .returned (.int .i64 (dE l)) ∧ Below w.heap.size w w' := by
  have HD := Lib.hid h
  have HS := Lib.hid hs
  clear h hs
  go_enter Tryz.func35, Tryz.ntmps35
  go_wp2
  go_loopw [8] (fun i wr => ∃ k : Nat, k ≤ l.length ∧ i = .int .i64 k ∧ Hid (∀ j (h : j < l.length), j < k → l[j].Ok) ∧ Below w.heap.size w wr) (fun i _ => l.length - (intOf i).toNat)
  case atStart => exact ⟨0, Nat.zero_le _, rfl, Lib.hid (fun j _ h => by omega), Below.refl _ _⟩
  case round =>
    obtain ⟨k, hk, rfl, hok, hb⟩ := hrel
    by_cases hlt : k < l.length
    · obtain ⟨ad, rfl, hadb, hc⟩ := (HD.out.below hb) (by omega)
      obtain ⟨c1, c2, c3⟩ := hc k hlt
      have K := Lib.hid (fun w => DCheck_c l[k] w (HS.out _ (List.getElem_mem hlt)))
      by_cases hok1 : l[k].Ok
      · have e0 := dE_ok (l := [l[k]]) (fun u hu => by rw [List.mem_singleton.1 hu]; exact hok1)
        rw [e0] at K
        have HOK := Lib.hid (show ∀ j (h : j < l.length), j < k + 1 → l[j].Ok from fun j hj h2 => by
          rcases Nat.lt_or_ge j k with h3 | h3
          · exact hok.out j hj h3
          · obtain rfl : j = k := by omega
            exact hok1)
        clear e0 hok1 hc
        go_wp2_with fail
        refine (K.out _).mono ?_
        rintro e w2 ⟨rfl, hb2⟩
        have hb3 := below_chain hb (box_below hb2)
        clear hb2
        go_wp2_with fail
        go_roundw
        case rel => exact ⟨k + 1, by omega, by go_num, HOK, hb3⟩
        case measure => simp [intOf]; omega
      · have e0 := dE_no (l := [l[k]]) (List.mem_singleton.2 rfl) hok1
        have e1 := dE_no (l := l) (List.getElem_mem hlt) hok1
        rw [e0] at K
        have HE := Lib.hid e1
        clear e0 e1 hok1 hc
        go_wp2_with fail
        refine (K.out _).mono ?_
        rintro e w2 ⟨rfl, hb2⟩
        have hb3 := below_chain hb (box_below hb2)
        clear hb2
        go_wp2_with fail
        go_ret
        exact ⟨by rw [HE.out]; rfl, hb3⟩
    · have e1 := dE_ok (l := l) (fun t ht => by
        obtain ⟨j, hj, rfl⟩ := List.getElem_of_mem ht
        exact hok.out j hj (by omega))
      have HE := Lib.hid e1
      clear e1
      go_wp2_with fail
      go_ret
      exact ⟨by rw [HE.out]; rfl, hb⟩
end Go.Proofs.YtamcnnocjelcjaaGreatDoor
namespace Go.Proofs.YtamcnnocjelcjaaGreatDoor.Bt.Ff
open Ieee
def rung (x : Nat) : Nat := x % 9223372036854775808
def sgn (x : Nat) : Bool := x / 9223372036854775808 % 2 == 1
def isn (x : Nat) : Prop := 9218868437227405312 < rung x
instance (x : Nat) : Decidable (isn x) := by unfold isn; exact inferInstance
def mag (r : Nat) : Nat := if r < 4503599627370496 then r else (4503599627370496 + r % 4503599627370496) * 2 ^ (r / 4503599627370496 - 1)
theorem sw : double.signWeight = 9223372036854775808 := by decide
theorem bin : double.binade = 4503599627370496 := by decide
theorem infr : double.infRung = 9218868437227405312 := by decide
theorem lp : double.leastPlace = -1074 := by decide
theorem read_eq (x : Nat) : double.read x =
    if rung x < 4503599627370496 then .number (sgn x) (rung x) (-1074)
    else if rung x < 9218868437227405312 then .number (sgn x) (4503599627370496 + rung x % 4503599627370496) (-1074 + ((rung x / 4503599627370496 - 1 : Nat) : Int))
    else if rung x = 9218868437227405312 then .infinity (sgn x) else .nan (sgn x) (rung x - 9218868437227405312) := by
  unfold Format.read
  rw [sw, bin, infr, lp]
  rfl
theorem mag_small {r : Nat} (h : r < 4503599627370496) : mag r = r := by unfold mag; rw [if_pos h]
theorem mag_big {r : Nat} (h : ¬ r < 4503599627370496) : mag r = (4503599627370496 + r % 4503599627370496) * 2 ^ (r / 4503599627370496 - 1) := by unfold mag; rw [if_neg h]
theorem signed_eq (s : Bool) (m u : Nat) : signed s m u = if s then -((m * 2 ^ u : Nat) : Int) else ((m * 2 ^ u : Nat) : Int) := by
  unfold signed; rw [Nat.shiftLeft_eq]
theorem read_fin {x : Nat} (h : rung x < 9218868437227405312) : ∃ m i : Nat, double.read x = .number (sgn x) m (-1074 + (i : Int)) ∧ m * 2 ^ i = mag (rung x) := by
  rw [read_eq]
  by_cases c : rung x < 4503599627370496
  · rw [if_pos c]; exact ⟨rung x, 0, rfl, by rw [mag_small c]; simp⟩
  · rw [if_neg c, if_pos h]; exact ⟨_, _, rfl, by rw [mag_big c]⟩
end Go.Proofs.YtamcnnocjelcjaaGreatDoor.Bt.Ff
namespace Go.Proofs.YtamcnnocjelcjaaGreatDoor.Bt
open Go Ff
theorem ret_int {k : IntKind} {a b : Int} (h : a = b) : Ending.returned (.int k a) = .returned (.int k b) := by rw [h]
@[irreducible] def infB (x : Nat) : Bool := rung x == 9218868437227405312
theorem infB_true (x : Nat) : infB x = true ↔ rung x = 9218868437227405312 := by unfold infB; exact beq_iff_eq
@[local go_sem] theorem eq_inf (x : Nat) : ((rung x : Int) == 9218868437227405312) = infB x := by
  rw [Bool.eq_iff_iff, beq_iff_eq, infB_true]; omega
@[irreducible] def subB (x : Nat) : Bool := decide (rung x < 4503599627370496)
theorem subB_true (x : Nat) : subB x = true ↔ rung x < 4503599627370496 := by unfold subB; exact decide_eq_true_iff
@[local go_sem] theorem lt_sub (x : Nat) : decide ((rung x : Int) < 4503599627370496) = subB x := by
  rw [Bool.eq_iff_iff, decide_eq_true_iff, subB_true]; omega
end Go.Proofs.YtamcnnocjelcjaaGreatDoor.Bt
namespace Go.Proofs.YtamcnnocjelcjaaGreatDoor.Bt
open Go Go.RowKit Ff
@[irreducible] def topped (b : Nat) : Nat := 9223372036854775808 + b
@[irreducible] def wf (neg : Bool) (r : Nat) : Nat := if neg then topped r else r
theorem sub_self (x : Nat) (h : rung x < 9218868437227405312) : floatBits .sub .f64 x x = some 0 := by
  show Ieee.double.sub x x = some 0
  obtain ⟨m, i, hm, _⟩ := read_fin h
  unfold Ieee.Format.sub
  rw [hm]
  simp only [Ieee.Datum.opposite, Ieee.Datum.sum, Int.min_self, Int.sub_self]
  have e : Ieee.signed (sgn x) m (Int.toNat 0) + Ieee.signed (!sgn x) m (Int.toNat 0) = 0 := by
    rw [signed_eq, signed_eq]; cases sgn x <;> simp <;> omega
  rw [e]
  simp only [if_true, Bool.and_not_self]
  rfl
end Go.Proofs.YtamcnnocjelcjaaGreatDoor.Bt
namespace Go.Proofs.YtamcnnocjelcjaaGreatDoor.Bt
open Go
def tz (m : Nat) : Nat := Lib.ctz 64 m
def od (m : Nat) : Nat := m / 2 ^ tz m
theorem tz_spec {m : Nat} (h0 : 0 < m) (hm : m < 18446744073709551616) : od m * 2 ^ tz m = m ∧ od m % 2 = 1 ∧ tz m < 64 := by
  obtain ⟨q, hq, hk⟩ := Lib.ctzFrom_spec 64 m h0 (by omega)
  have e : tz m = Lib.ctzFrom 64 m := by unfold tz Lib.ctz; rw [if_neg (by omega)]
  have e2 : od m = 2 * q + 1 := by
    unfold od; rw [e]
    have hp := Nat.two_pow_pos (Lib.ctzFrom 64 m)
    generalize Lib.ctzFrom 64 m = k at hq hp ⊢
    rw [hq, Nat.mul_comm, Nat.mul_div_cancel _ hp]
  refine ⟨?_, by omega, by omega⟩
  rw [e2, e, Nat.mul_comm]; exact hq.symm
end Go.Proofs.YtamcnnocjelcjaaGreatDoor.Bt
namespace Go.Proofs.YtamcnnocjelcjaaGreatDoor.Bt
open Go Go.RowKit Ff
def Tabs (w : World) : Prop := TabAt 1 Lib.deBruijn64tab w ∧ 1 < w.heap.size
theorem Tabs.below {w w' : World} (h : Tabs w) (hb : Below w.heap.size w w') : Tabs w' :=
  ⟨fun j hj => by rw [hb.cell (p := ⟨1, j, none⟩) h.2]; exact h.1 j hj, Nat.lt_of_lt_of_le h.2 hb.size⟩
end Go.Proofs.YtamcnnocjelcjaaGreatDoor.Bt
namespace Go.Proofs.YtamcnnocjelcjaaGreatDoor
open Go Go.RowKit
theorem size_of_cell {w : World} {b o : Nat} {v : Value} (h : w.cell? ⟨b, o, none⟩ = some v) : b < w.heap.size := by
  unfold World.cell? at h
  cases hb : w.heap[b]? with
  | none => simp [hb] at h
  | some x => exact (Array.getElem?_eq_some_iff.1 hb).1
theorem gDe : Tryz.prog.globalNamed "math/bits.deBruijn64tab" = some 1 := by kernel_rfl
theorem gDeType : (Tryz.prog.globals[1]?).map (·.type) = some 183 := by kernel_rfl
theorem cDe : Tryz.prog.cellsOf 183 = 64 := by kernel_rfl
theorem cU8 : Tryz.prog.cellsOf 5 = 1 := by kernel_rfl
def glT : List (Nat × List AV) := [(1, Lib.deBruijn64tab.map fun (x : Nat) => AV.lit (.int .u8 (x : Nat)))]
theorem globs_of {W : World} {laid : List (String × DataW Unit)} (hl : laid.filter (fun x => x.1 == "math/bits.deBruijn64tab") = [("math/bits.deBruijn64tab", Rows.laid_math_bits_deBruijn64tab)]) (hL : laidMetH Tryz.prog laid W) : Globs glT W := by
  have h := hL.filter (fun x => x.1 == "math/bits.deBruijn64tab")
  rw [hl] at h
  have h1 : Lib.TabIs Tryz.prog W "math/bits.deBruijn64tab" .u8 (Lib.deBruijn64tab.map Int.ofNat) := Lib.tabIs_of_head (rest := []) gDe gDeType Tryz.underlying183 Tryz.underlying5 cU8 cDe h
  have hlen : Lib.deBruijn64tab.length = 64 := by decide
  have c1 : ∀ j, j < 64 → W.cell? ⟨1, j, none⟩ = some (.int .u8 ((Lib.deBruijn64tab.getD j 0 : Nat) : Int)) := fun j hj => by
    have := h1.cell gDe j (by rw [List.length_map, hlen]; exact hj)
    rw [this]; simp [List.getD]
    cases Lib.deBruijn64tab[j]? <;> rfl
  intro g B hB
  unfold glT at hB
  rw [look_cons] at hB
  split at hB
  · rename_i e
    injection hB with hB
    have e : 1 = g := e
    subst e hB
    refine ⟨size_of_cell (c1 0 (by decide)), fun i v hv => ?_⟩
    have hi : i < 64 := by
      have := (List.getElem?_eq_some_iff.1 hv).1
      rw [List.length_map, hlen] at this; exact this
    rw [List.getElem?_map] at hv
    cases hx : Lib.deBruijn64tab[i]? with
    | none => rw [hx] at hv; cases hv
    | some x =>
      rw [hx] at hv
      injection hv with hv
      refine ⟨_, hv.symm, ?_⟩
      rw [c1 i hi]
      simp [List.getD, hx]
  · cases hB
end Go.Proofs.YtamcnnocjelcjaaGreatDoor
namespace Go.Proofs.YtamcnnocjelcjaaGreatDoor
open Go Go.RowKit
theorem Globs.below {gl : List (Nat × List AV)} {w w' : World} (h : Globs gl w) {n : Nat} (hb : Below n w w') (hn : w.heap.size ≤ n) : Globs gl w' := fun g B hB => by
  obtain ⟨h1, h2⟩ := h g B hB
  refine ⟨Nat.lt_of_lt_of_le h1 hb.size, fun i v hv => ?_⟩
  obtain ⟨u, e, c⟩ := h2 i v hv
  exact ⟨u, e, (hb.cell (p := ⟨g, i, none⟩) (by show g < n; omega)).trans c⟩
end Go.Proofs.YtamcnnocjelcjaaGreatDoor
namespace Go.Proofs.YtamcnnocjelcjaaGreatDoor
open Go Go.RowKit Nt
theorem tabs_of {w : World} (h : Globs glT w) : Bt.Tabs w := by
  have hlk : look 1 glT = some (Lib.deBruijn64tab.map fun (x : Nat) => AV.lit (.int .u8 (x : Nat))) := by
    unfold glT; rw [look_cons, if_pos rfl]
  obtain ⟨h1, h2⟩ := h _ _ hlk
  refine ⟨fun j hj => ?_, h1⟩
  obtain ⟨u, e, c⟩ := h2 j (AV.lit (.int .u8 ((Lib.deBruijn64tab[j]'hj : Nat) : Int))) (by rw [List.getElem?_map, List.getElem?_eq_getElem hj]; rfl)
  injection e with e
  rw [c, ← e]
  simp [List.getD, List.getElem?_eq_getElem hj]
theorem box_tabs {w : World} {b : Obj} (h : Bt.Tabs w) : Bt.Tabs (w.alloc b) := h.below ((Below.refl _ _).alloc (Nat.le_refl _) _)
end Go.Proofs.YtamcnnocjelcjaaGreatDoor
namespace Go.Proofs.YtamcnnocjelcjaaGreatDoor
open Go Go.RowKit Nt
def BoxAt (w : World) (B : Nat) (g : Bool) (s : ByteArray) (x : Int) : Prop := B < w.heap.size ∧ w.cell? ⟨B, 0, none⟩ = some (.bool g) ∧ w.cell? ⟨B, 1, none⟩ = some (.string s) ∧ w.cell? ⟨B, 2, none⟩ = some (.int .i64 x)
theorem BoxAt.step {w w' : World} {B : Nat} {g : Bool} {s : ByteArray} {x : Int} (h : BoxAt w B g s x) (hb : Below w.heap.size w w') : BoxAt w' B g s x := by
  obtain ⟨h0, h1, h2, h3⟩ := h
  exact ⟨Nat.lt_of_lt_of_le h0 hb.size, (hb.cell (p := ⟨B, 0, none⟩) h0).trans h1, (hb.cell (p := ⟨B, 1, none⟩) h0).trans h2, (hb.cell (p := ⟨B, 2, none⟩) h0).trans h3⟩
theorem BoxAt.new (w : World) (g : Bool) (s : ByteArray) (x : Int) (T : TypeId) : BoxAt (w.alloc (.cells #[.bool g, .string s, .int .i64 x] T)) w.heap.size g s x :=
  ⟨by simp, (World.cell?_alloc_at _ _ _ _ rfl).trans rfl, (World.cell?_alloc_at _ _ _ _ rfl).trans rfl, (World.cell?_alloc_at _ _ _ _ rfl).trans rfl⟩
def On1 (w : World) (g : Bool) (s : ByteArray) (x : Int) (wc : World) : Prop := Below w.heap.size w wc ∧ BoxAt wc w.heap.size g s x
theorem On1.step {w : World} {g : Bool} {s : ByteArray} {x : Int} {wc w' : World} (h : On1 w g s x wc) (hb : Below wc.heap.size wc w') : On1 w g s x w' := ⟨below_chain h.1 hb, h.2.step hb⟩
theorem On1.new (w : World) (g : Bool) (s : ByteArray) (x : Int) (T : TypeId) : On1 w g s x (w.alloc (.cells #[.bool g, .string s, .int .i64 x] T)) := ⟨(Below.refl _ _).alloc (Nat.le_refl _) _, BoxAt.new w g s x T⟩
def On2 (w : World) (g : Bool) (s : ByteArray) (x : Int) (B : Nat) (wc : World) : Prop := On1 w g s x wc ∧ BoxAt wc B false s x
theorem On2.step {w : World} {g : Bool} {s : ByteArray} {x : Int} {B : Nat} {wc w' : World} (h : On2 w g s x B wc) (hb : Below wc.heap.size wc w') : On2 w g s x B w' := ⟨h.1.step hb, h.2.step hb⟩
theorem On2.start {w : World} {g : Bool} {s : ByteArray} {x : Int} {w1 : World} {T : TypeId} (h : On1 w g s x w1) : On2 w g s x w1.heap.size ((w1.alloc (.cells #[.bool false, .string s, .int .i64 x] T)).drew) := by
  have e : Below w1.heap.size w1 (w1.alloc (.cells #[.bool false, .string s, .int .i64 x] T)) := (Below.refl _ _).alloc (Nat.le_refl _) _
  exact ⟨h.step e.drew, (BoxAt.new w1 false s x T).step (Below.refl _ _).drew⟩
end Go.Proofs.YtamcnnocjelcjaaGreatDoor
namespace Go.Proofs.YtamcnnocjelcjaaGreatDoor
open Go Go.RowKit Nt
def Box3 (w : World) (B : Nat) (a b c : Value) : Prop := Blk w B 24 #[a, b, c]
theorem Box3.facts {w : World} {B : Nat} {a b c : Value} (h : Box3 w B a b c) : B < w.heap.size ∧ w.cell? ⟨B, 0, none⟩ = some a ∧ w.cell? ⟨B, 1, none⟩ = some b ∧ w.cell? ⟨B, 2, none⟩ = some c ∧ w.frozen? ⟨B, 0, none⟩ = false ∧ w.frozen? ⟨B, 1, none⟩ = false ∧ w.frozen? ⟨B, 2, none⟩ = false :=
  ⟨Blk.lt h, (Blk.cell h 0).trans rfl, (Blk.cell h 1).trans rfl, (Blk.cell h 2).trans rfl, Blk.frozen h 0, Blk.frozen h 1, Blk.frozen h 2⟩
theorem Box3.step {w w' : World} {B : Nat} {a b c : Value} (h : Box3 w B a b c) (hb : Below w.heap.size w w') : Box3 w' B a b c := Blk.below h hb (Blk.lt h)
theorem Box3.new (w : World) (a b c : Value) : Box3 (w.alloc (.cells #[a, b, c] 24)) w.heap.size a b c := Blk.new w _ _
theorem Box3.more {w : World} {B : Nat} {a b c : Value} (h : Box3 w B a b c) (o : Obj) : Box3 (w.alloc o) B a b c := Blk.alloc h o
theorem Box3.put {w : World} {B : Nat} {a b c : Value} (h : Box3 w B a b c) (a' b' c' : Value) : Box3 (((w.setCell ⟨B, 0, none⟩ a').setCell ⟨B, 1, none⟩ b').setCell ⟨B, 2, none⟩ c') B a' b' c' := by
  have := ((Blk.set_ h 0 a').set_ 1 b').set_ 2 c'
  unfold Box3
  simpa using this
theorem Box3.far {w : World} {B C : Nat} {a b c : Value} (h : Box3 w B a b c) (hne : B ≠ C) (a' b' c' : Value) : Box3 (((w.setCell ⟨C, 0, none⟩ a').setCell ⟨C, 1, none⟩ b').setCell ⟨C, 2, none⟩ c') B a b c :=
  Blk.far (Blk.far (Blk.far h (p := ⟨C, 0, none⟩) hne a') (p := ⟨C, 1, none⟩) hne b') (p := ⟨C, 2, none⟩) hne c'
theorem below_put {n : Nat} {w W : World} {A : Nat} (hb : Below n w W) (hA : n ≤ A) (a' b' c' : Value) : Below n w (((W.setCell ⟨A, 0, none⟩ a').setCell ⟨A, 1, none⟩ b').setCell ⟨A, 2, none⟩ c') :=
  ((hb.setCell (p := ⟨A, 0, none⟩) hA a').setCell (p := ⟨A, 1, none⟩) hA b').setCell (p := ⟨A, 2, none⟩) hA c'
theorem below_then {a b c : World} (h1 : Below a.heap.size a b) (h2 : Below b.heap.size b c) : Below a.heap.size a c := h1.trans (h2.mono h1.size)
end Go.Proofs.YtamcnnocjelcjaaGreatDoor
namespace Go.Proofs.YtamcnnocjelcjaaGreatDoor
open Go Go.RowKit Nt
def TB (w : World) (a b : Dt) (W : World) : Prop := Below w.heap.size w W ∧ Box3 W w.heap.size (.bool a.g) (.string a.s) (.int .i64 a.x) ∧ Box3 W (w.heap.size + 1) (.bool b.g) (.string b.s) (.int .i64 b.x)
theorem TB.start (w : World) (a b : Dt) : TB w a b ((w.alloc (.cells #[.bool a.g, .string a.s, .int .i64 a.x] 24)).alloc (.cells #[.bool b.g, .string b.s, .int .i64 b.x] 24)) := by
  have e : (w.alloc (.cells #[.bool a.g, .string a.s, .int .i64 a.x] 24)).heap.size = w.heap.size + 1 := by simp
  refine ⟨((Below.refl _ _).alloc (Nat.le_refl _) _).alloc (by simp) _, (Box3.new w _ _ _).more _, ?_⟩
  rw [← e]
  exact Box3.new _ _ _ _
theorem TB.step {w : World} {a b : Dt} {W W' : World} (h : TB w a b W) (hb : Below W.heap.size W W') : TB w a b W' := ⟨below_then h.1 hb, h.2.1.step hb, h.2.2.step hb⟩
theorem TB.more {w : World} {a b : Dt} {W : World} (h : TB w a b W) (o : Obj) : TB w a b (W.alloc o) := h.step ((Below.refl _ _).alloc (Nat.le_refl _) _)
theorem TB.drawn {w : World} {a b : Dt} {W : World} (h : TB w a b W) (n : Nat) : TB w a b (W.drewN n) := h.step (below_drewN (Below.refl _ _) n)
theorem TB.drew {w : World} {a b : Dt} {W : World} (h : TB w a b W) : TB w a b W.drew := h.step (Below.refl _ _).drew
@[irreducible] def topD (d : Dy) : Int := (nd 2 d.n : Nat) - 1 + d.x
theorem topD_eq (d : Dy) : topD d = (nd 2 d.n : Nat) - 1 + d.x := by unfold topD; rfl
@[irreducible] def upN (a b : Dy) : Nat := a.n * 2 ^ (a.x - b.x).toNat
theorem upN_eq (a b : Dy) : upN a b = a.n * 2 ^ (a.x - b.x).toNat := by unfold upN; rfl
@[irreducible] def magC (a b : Dy) : Int := if topD a < topD b then -1 else if topD b < topD a then 1 else cmpN (upN a b) (upN b a)
theorem magC_lt {a b : Dy} (h : topD a < topD b) : magC a b = -1 := by unfold magC; rw [if_pos h]
theorem magC_gt {a b : Dy} (h : topD b < topD a) : magC a b = 1 := by unfold magC; rw [if_neg (by omega), if_pos h]
theorem magC_eq {a b : Dy} (h : topD a = topD b) : magC a b = cmpN (upN a b) (upN b a) := by unfold magC; rw [if_neg (by omega), if_neg (by omega)]
def Dy.t (d : Dy) : Dt := ⟨d.g, natS d.n, d.x⟩
theorem Dy.t_ok {d : Dy} (h : d.Num) : d.t.Ok := Or.inr ⟨d.n, h.1, h.2.1, rfl, h.2.2.1, h.2.2.2⟩
theorem up_fits {a b : Dy} (ha : a.Num) (hb : b.Num) (h : topD a = topD b) (hx : b.x < a.x) : fits (a.n * 2 ^ (a.x - b.x).toNat) ∧ upN a b = a.n * 2 ^ (a.x - b.x).toNat ∧ upN b a = b.n := by
  refine ⟨(fits_shift (odd_ne ha.2.1)).2 ?_, upN_eq a b, ?_⟩
  · have h1 := bits_131072' hb.1
    rw [topD_eq, topD_eq] at h
    omega
  · rw [upN_eq, show (b.x - a.x).toNat = 0 by omega, Nat.pow_zero, Nat.mul_one]
set_option maxRecDepth 100000 in
set_option maxHeartbeats 2000000 in
theorem Dmag_c (a b : Dy) (w : World) (ha : a.Num) (hb : b.Num) :
    Calls Tryz.prog 37 #[.agg #[.bool a.g, .string (natS a.n), .int .i64 a.x], .agg #[.bool b.g, .string (natS b.n), .int .i64 b.x]] w fun e w' => e = .returned (.int .i64 (magC a b)) ∧ Below w.heap.size w w' := by
  have KA := Lib.hid (fun w => DTop_num a.g a.n a.x w ha.1 ha.2.1 ha.2.2.1 ha.2.2.2)
  have KB := Lib.hid (fun w => DTop_num b.g b.n b.x w hb.1 hb.2.1 hb.2.2.1 hb.2.2.2)
  rw [← topD_eq] at KA KB
  have HA := Lib.hid ha
  have HB := Lib.hid hb
  have hxa := ha.2.2
  have hxb := hb.2.2
  have T0 := TB.start w a.t b.t
  unfold Dy.t at T0
  have hcase : topD a < topD b ∨ topD b < topD a ∨ (topD a = topD b ∧ b.x < a.x) ∨ (topD a = topD b ∧ a.x < b.x) ∨ (topD a = topD b ∧ a.x = b.x) := by omega
  clear ha hb
  rcases hcase with h | h | ⟨h, hx⟩ | ⟨h, hx⟩ | ⟨h, hx⟩
  · have HE := Lib.hid (magC_lt h)
    generalize topD a = ta at *
    generalize topD b = tb at *
    go_enter Tryz.func37, Tryz.ntmps37
    go_wp2_with fail
    refine (KA.out _).mono ?_
    rintro e w1 ⟨rfl, hb⟩
    replace T0 := T0.step hb
    obtain ⟨p0, p1, p2, p3, p4, p5, p6⟩ := T0.2.1.facts
    obtain ⟨q0, q1, q2, q3, q4, q5, q6⟩ := T0.2.2.facts
    clear hb
    go_wp2_with fail
    refine (KB.out _).mono ?_
    rintro e w2 ⟨rfl, hb⟩
    replace T0 := T0.step hb
    clear hb p0 p1 p2 p3 p4 p5 p6 q0 q1 q2 q3 q4 q5 q6
    go_wp2_with fail
    go_ret
    exact ⟨by rw [HE.out]; rfl, T0.1⟩
  · have HE := Lib.hid (magC_gt h)
    generalize topD a = ta at *
    generalize topD b = tb at *
    go_enter Tryz.func37, Tryz.ntmps37
    go_wp2_with fail
    refine (KA.out _).mono ?_
    rintro e w1 ⟨rfl, hb⟩
    replace T0 := T0.step hb
    obtain ⟨p0, p1, p2, p3, p4, p5, p6⟩ := T0.2.1.facts
    obtain ⟨q0, q1, q2, q3, q4, q5, q6⟩ := T0.2.2.facts
    clear hb
    go_wp2_with fail
    refine (KB.out _).mono ?_
    rintro e w2 ⟨rfl, hb⟩
    replace T0 := T0.step hb
    clear hb p0 p1 p2 p3 p4 p5 p6 q0 q1 q2 q3 q4 q5 q6
    go_wp2_with fail
    go_ret
    exact ⟨by rw [HE.out]; rfl, T0.1⟩
  · obtain ⟨hf, hu, hv⟩ := up_fits HA.out HB.out h hx
    obtain ⟨j, hj⟩ : ∃ j, j = (a.x - b.x).toNat := ⟨_, rfl⟩
    rw [← hj] at hf hu
    have KS := Lib.hid (fun w => NShift_up a.n j w HA.out.1 (odd_ne HA.out.2.1) (by omega) hf)
    have KC : Hid (∀ w, Calls Tryz.prog 59 #[.string (natS (a.n * 2 ^ j)), .string (natS b.n)] w (IntPost (magC a b) 0 w)) := Lib.hid fun w => by
      rw [magC_eq h]
      rw [hu, hv]
      exact NCmp_c _ _ w hf HB.out.1
    have hjx : a.x - b.x = (j : Int) := by omega
    have hj0 : (0 : Int) < (j : Int) := by omega
    obtain ⟨z, hz⟩ : ∃ z, z = a.n * 2 ^ j := ⟨_, rfl⟩
    rw [← hz] at KS KC
    clear hf hu hv hj hx hz
    rw [h] at KA
    clear h
    generalize topD b = tb at *
    go_enter Tryz.func37, Tryz.ntmps37
    go_wp2_with fail
    refine (KA.out _).mono ?_
    rintro e w1 ⟨rfl, hb⟩
    replace T0 := T0.step hb
    obtain ⟨p0, p1, p2, p3, p4, p5, p6⟩ := T0.2.1.facts
    obtain ⟨q0, q1, q2, q3, q4, q5, q6⟩ := T0.2.2.facts
    clear hb
    go_wp2_with fail
    refine (KB.out _).mono ?_
    rintro e w2 ⟨rfl, hb⟩
    replace T0 := T0.step hb
    clear hb p0 p1 p2 p3 p4 p5 p6 q0 q1 q2 q3 q4 q5 q6
    obtain ⟨p0, p1, p2, p3, p4, p5, p6⟩ := T0.2.1.facts
    obtain ⟨q0, q1, q2, q3, q4, q5, q6⟩ := T0.2.2.facts
    go_wp2_with fail
    go_quiet (fail)
    rename_i nq
    replace T0 := T0.drawn nq
    generalize w2.drewN nq = w3 at *
    clear p0 p1 p2 p3 p4 p5 p6 q0 q1 q2 q3 q4 q5 q6
    obtain ⟨p0, p1, p2, p3, p4, p5, p6⟩ := T0.2.1.facts
    obtain ⟨q0, q1, q2, q3, q4, q5, q6⟩ := T0.2.2.facts
    go_wp2_with (first
      | (go_at_call 58; refine (KS.out _).mono ?_; rintro e w4 ⟨rfl, hb⟩; replace T0 := T0.step hb; clear hb)
      | (go_at_call 59; refine (KC.out _).mono ?_; rintro e w5 ⟨rfl, hb⟩; replace T0 := T0.step hb; clear hb))
    go_ret
    exact ⟨rfl, T0.1⟩
  · obtain ⟨hf, hu, hv⟩ := up_fits HB.out HA.out h.symm hx
    obtain ⟨j, hj⟩ : ∃ j, j = (b.x - a.x).toNat := ⟨_, rfl⟩
    rw [← hj] at hf hu
    have KS := Lib.hid (fun w => NShift_up b.n j w HB.out.1 (odd_ne HB.out.2.1) (by omega) hf)
    have KC : Hid (∀ w, Calls Tryz.prog 59 #[.string (natS a.n), .string (natS (b.n * 2 ^ j))] w (IntPost (magC a b) 0 w)) := Lib.hid fun w => by
      rw [magC_eq h]
      rw [hv, hu]
      exact NCmp_c _ _ w HA.out.1 hf
    have hjx : b.x - a.x = (j : Int) := by omega
    have hj0 : (0 : Int) < (j : Int) := by omega
    obtain ⟨z, hz⟩ : ∃ z, z = b.n * 2 ^ j := ⟨_, rfl⟩
    rw [← hz] at KS KC
    have hjn : a.x - b.x = -(j : Int) := by omega
    have hjm : ¬ (0 : Int) < -(j : Int) := by omega
    clear hf hu hv hj hx hz hjx
    rw [h] at KA
    clear h
    generalize topD b = tb at *
    go_enter Tryz.func37, Tryz.ntmps37
    go_wp2_with fail
    refine (KA.out _).mono ?_
    rintro e w1 ⟨rfl, hb⟩
    replace T0 := T0.step hb
    obtain ⟨p0, p1, p2, p3, p4, p5, p6⟩ := T0.2.1.facts
    obtain ⟨q0, q1, q2, q3, q4, q5, q6⟩ := T0.2.2.facts
    clear hb
    go_wp2_with fail
    refine (KB.out _).mono ?_
    rintro e w2 ⟨rfl, hb⟩
    replace T0 := T0.step hb
    clear hb p0 p1 p2 p3 p4 p5 p6 q0 q1 q2 q3 q4 q5 q6
    obtain ⟨p0, p1, p2, p3, p4, p5, p6⟩ := T0.2.1.facts
    obtain ⟨q0, q1, q2, q3, q4, q5, q6⟩ := T0.2.2.facts
    go_wp2_with fail
    go_quiet (fail)
    rename_i nq
    replace T0 := T0.drawn nq
    generalize w2.drewN nq = w3 at *
    clear p0 p1 p2 p3 p4 p5 p6 q0 q1 q2 q3 q4 q5 q6
    obtain ⟨p0, p1, p2, p3, p4, p5, p6⟩ := T0.2.1.facts
    obtain ⟨q0, q1, q2, q3, q4, q5, q6⟩ := T0.2.2.facts
    go_wp2_with (first
      | (go_at_call 58; refine (KS.out _).mono ?_; rintro e w4 ⟨rfl, hb⟩; replace T0 := T0.step hb; clear hb)
      | (go_at_call 59; refine (KC.out _).mono ?_; rintro e w5 ⟨rfl, hb⟩; replace T0 := T0.step hb; clear hb))
    go_ret
    exact ⟨rfl, T0.1⟩
  · have KS := Lib.hid (fun w => NShift_stay b.n w HB.out.1 (odd_ne HB.out.2.1))
    have KC : Hid (∀ w, Calls Tryz.prog 59 #[.string (natS a.n), .string (natS b.n)] w (IntPost (magC a b) 0 w)) := Lib.hid fun w => by
      rw [magC_eq h, upN_eq, upN_eq, show (a.x - b.x).toNat = 0 by omega, show (b.x - a.x).toNat = 0 by omega, Nat.pow_zero, Nat.mul_one, Nat.mul_one]
      exact NCmp_c _ _ w HA.out.1 HB.out.1
    have hjn : a.x - b.x = 0 := by omega
    rw [h] at KA
    clear h hx
    generalize topD b = tb at *
    go_enter Tryz.func37, Tryz.ntmps37
    go_wp2_with fail
    refine (KA.out _).mono ?_
    rintro e w1 ⟨rfl, hb⟩
    replace T0 := T0.step hb
    obtain ⟨p0, p1, p2, p3, p4, p5, p6⟩ := T0.2.1.facts
    obtain ⟨q0, q1, q2, q3, q4, q5, q6⟩ := T0.2.2.facts
    clear hb
    go_wp2_with fail
    refine (KB.out _).mono ?_
    rintro e w2 ⟨rfl, hb⟩
    replace T0 := T0.step hb
    clear hb p0 p1 p2 p3 p4 p5 p6 q0 q1 q2 q3 q4 q5 q6
    obtain ⟨p0, p1, p2, p3, p4, p5, p6⟩ := T0.2.1.facts
    obtain ⟨q0, q1, q2, q3, q4, q5, q6⟩ := T0.2.2.facts
    go_wp2_with fail
    go_quiet (fail)
    rename_i nq
    replace T0 := T0.drawn nq
    generalize w2.drewN nq = w3 at *
    clear p0 p1 p2 p3 p4 p5 p6 q0 q1 q2 q3 q4 q5 q6
    obtain ⟨p0, p1, p2, p3, p4, p5, p6⟩ := T0.2.1.facts
    obtain ⟨q0, q1, q2, q3, q4, q5, q6⟩ := T0.2.2.facts
    go_wp2_with (first
      | (go_at_call 58; refine (KS.out _).mono ?_; rintro e w4 ⟨rfl, hb⟩; replace T0 := T0.step hb; clear hb)
      | (go_at_call 59; refine (KC.out _).mono ?_; rintro e w5 ⟨rfl, hb⟩; replace T0 := T0.step hb; clear hb))
    go_ret
    exact ⟨rfl, T0.1⟩
end Go.Proofs.YtamcnnocjelcjaaGreatDoor
namespace Go.Proofs.YtamcnnocjelcjaaGreatDoor
open Go Go.RowKit Nt
@[irreducible] def sgD (d : Dy) : Int := if d.n = 0 then 0 else sgnI d.g
theorem sgD_zero : sgD Dy.zero = 0 := by unfold sgD Dy.zero; rfl
theorem sgD_num {d : Dy} (h : d.n ≠ 0) : sgD d = sgnI d.g := by unfold sgD; rw [if_neg h]
theorem sgD_ne {d : Dy} (h : d.n ≠ 0) : sgD d ≠ 0 := by rw [sgD_num h]; exact sgn_ne2 d.g
theorem Dy.num_of {d : Dy} (h : d.Ok) (hs : sgD d ≠ 0) : d.Num := by
  rcases h with rfl | h
  · exact absurd sgD_zero hs
  · exact h
theorem Dy.zero_of {d : Dy} (h : d.Ok) (hs : sgD d = 0) : d = Dy.zero := by
  rcases h with rfl | h
  · rfl
  · exact absurd hs (sgD_ne (odd_ne h.2.1))
theorem sgD_b (d : Dy) : sgD d = -1 ∨ sgD d = 0 ∨ sgD d = 1 := by
  unfold sgD
  by_cases h : d.n = 0
  · rw [if_pos h]; exact Or.inr (Or.inl rfl)
  · rw [if_neg h]
    cases d.g
    · exact Or.inr (Or.inr sgn_f)
    · exact Or.inl sgn_t
theorem Dy.ok_t {d : Dy} (h : d.Ok) : d.t.Ok := by
  rcases h with rfl | h
  · exact Or.inl ⟨natS_zero, rfl, rfl⟩
  · exact Dy.t_ok h
theorem Dy.small {d : Dy} (h : d.Ok) : (natS d.n).size ≤ 16384 := Dt.small (Dy.ok_t h)
theorem DSign_c (d : Dy) (h : d.Ok) (w : World) : Calls Tryz.prog 36 #[.agg #[.bool d.g, .string (natS d.n), .int .i64 d.x]] w fun e w' => e = .returned (.int .i64 (sgD d)) ∧ Below w.heap.size w w' := by
  rcases h with rfl | h
  · rw [sgD_zero]
    show Calls _ _ #[.agg #[.bool false, .string (natS 0), .int .i64 0]] _ _
    rw [natS_zero]; exact DSign_zero w
  · rw [sgD_num (odd_ne h.2.1)]
    exact DSign_num d.g d.n d.x w h.1 h.2.1 h.2.2.1 h.2.2.2
@[irreducible] def cmpD (a b : Dy) : Int := if sgD a < sgD b then -1 else if sgD b < sgD a then 1 else if sgD a = 0 then 0 else sgD a * magC a b
theorem cmpD_lt {a b : Dy} (h : sgD a < sgD b) : cmpD a b = -1 := by unfold cmpD; rw [if_pos h]
theorem cmpD_gt {a b : Dy} (h : sgD b < sgD a) : cmpD a b = 1 := by unfold cmpD; rw [if_neg (by omega), if_pos h]
theorem cmpD_zero {a b : Dy} (h : sgD a = sgD b) (h0 : sgD a = 0) : cmpD a b = 0 := by unfold cmpD; rw [if_neg (by omega), if_neg (by omega), if_pos h0]
theorem cmpD_eq {a b : Dy} (h : sgD a = sgD b) (h0 : sgD a ≠ 0) : cmpD a b = sgD a * magC a b := by unfold cmpD; rw [if_neg (by omega), if_neg (by omega), if_neg h0]
theorem cmpD_self (a : Dy) : cmpD a a = 0 := by
  by_cases h : sgD a = 0
  · exact cmpD_zero rfl h
  · rw [cmpD_eq rfl h, magC_eq rfl, cmpN_eq, Int.mul_zero]
theorem magC_b (a b : Dy) : magC a b = -1 ∨ magC a b = 0 ∨ magC a b = 1 := by
  unfold magC cmpN
  split
  · exact Or.inl rfl
  · split
    · exact Or.inr (Or.inr rfl)
    · split
      · exact Or.inl rfl
      · split
        · exact Or.inr (Or.inl rfl)
        · exact Or.inr (Or.inr rfl)
theorem dts2 (W : World) (a b : Dt) (T : TypeId) : Dts (W.alloc (.cells #[.bool a.g, .string a.s, .int .i64 a.x, .bool b.g, .string b.s, .int .i64 b.x] T)) (some ⟨W.heap.size, 0, none⟩) [a, b] := fun _ => by
  refine ⟨_, rfl, by simp, fun j hj => ?_⟩
  have hc : ∀ o, (W.alloc (.cells #[.bool a.g, .string a.s, .int .i64 a.x, .bool b.g, .string b.s, .int .i64 b.x] T)).cell? ⟨W.heap.size, o, none⟩ = #[.bool a.g, .string a.s, .int .i64 a.x, .bool b.g, .string b.s, .int .i64 b.x][o]? := fun o => (Blk.new W T _).cell o
  have hj2 : j = 0 ∨ j = 1 := by simp at hj; omega
  rcases hj2 with rfl | rfl
  · refine ⟨?_, ?_, ?_⟩
    · rw [Nat.zero_mul, add_plain0, hc]; rfl
    · rw [Nat.zero_mul, add_plain0, hc]; rfl
    · rw [Nat.zero_mul, add_plain0, hc]; rfl
  · refine ⟨?_, ?_, ?_⟩
    · rw [Nat.one_mul, add_plain0, hc]; rfl
    · rw [Nat.one_mul, add_plain0, hc]; rfl
    · rw [Nat.one_mul, add_plain0, hc]; rfl
theorem Dall2 (a b : Dt) (W : World) (T : TypeId) (A : Nat) (hA : A = W.heap.size) (ha : a.s.size ≤ 9223372036854775807) (hb : b.s.size ≤ 9223372036854775807) :
    Calls Tryz.prog 35 #[.slice (some ⟨A, 0, none⟩) 2 2] (W.alloc (.cells #[.bool a.g, .string a.s, .int .i64 a.x, .bool b.g, .string b.s, .int .i64 b.x] T)) fun e w' => e = .returned (.int .i64 (dE [a, b])) ∧ Below (W.alloc (.cells #[.bool a.g, .string a.s, .int .i64 a.x, .bool b.g, .string b.s, .int .i64 b.x] T)).heap.size (W.alloc (.cells #[.bool a.g, .string a.s, .int .i64 a.x, .bool b.g, .string b.s, .int .i64 b.x] T)) w' := by
  subst hA
  exact Dall_c _ 2 [a, b] _ (by simp) (fun t ht => by
    rcases List.mem_cons.1 ht with rfl | ht
    · exact ha
    · rw [List.mem_singleton.1 ht]; exact hb) (dts2 W a b T)
set_option maxRecDepth 100000 in
set_option maxHeartbeats 2000000 in
theorem DCmp_bad (a b : Dt) (w : World) (ha : a.s.size ≤ 9223372036854775807) (hb : b.s.size ≤ 9223372036854775807) (hn : ¬ (a.Ok ∧ b.Ok)) :
    Calls Tryz.prog 14 #[.agg #[.bool a.g, .string a.s, .int .i64 a.x], .agg #[.bool b.g, .string b.s, .int .i64 b.x]] w fun e w' => e = .returned (.tuple #[.int .i64 0, .int .i64 2]) ∧ Below w.heap.size w w' := by
  have he : dE [a, b] = 2 := by
    by_cases h : a.Ok
    · exact dE_no (t := b) (by simp) (fun c => hn ⟨h, c⟩)
    · exact dE_no (t := a) (by simp) h
  have KA := Lib.hid (fun W T A hA => Dall2 a b W T A hA ha hb)
  rw [he] at KA
  have T0 := TB.start w a b
  clear ha hb hn he
  go_enter Tryz.func14, Tryz.ntmps14
  go_wp2_with fail
  refine (KA.out _ _ _ (by simp)).mono ?_
  rintro e w1 ⟨rfl, hb⟩
  replace T0 := (T0.more _).step hb
  clear hb
  go_wp2_with fail
  go_ret2
  exact ⟨rfl, T0.1⟩
set_option maxRecDepth 100000 in
set_option maxHeartbeats 2000000 in
theorem DCmp_same (a : Dy) (w : World) (ha : a.Ok) :
    Calls Tryz.prog 14 #[.agg #[.bool a.g, .string (natS a.n), .int .i64 a.x], .agg #[.bool a.g, .string (natS a.n), .int .i64 a.x]] w fun e w' => e = .returned (.tuple #[.int .i64 (cmpD a a), .int .i64 0]) ∧ Below w.heap.size w w' := by
  have he : dE [a.t, a.t] = 0 := dE_ok fun t ht => by
    rcases List.mem_cons.1 ht with rfl | ht
    · exact Dy.ok_t ha
    · rw [List.mem_singleton.1 ht]; exact Dy.ok_t ha
  have KA := Lib.hid (fun W T A hA => Dall2 a.t a.t W T A hA (by have := Dy.small ha; show (natS a.n).size ≤ _; omega) (by have := Dy.small ha; show (natS a.n).size ≤ _; omega))
  rw [he] at KA
  have T0 := TB.start w a.t a.t
  unfold Dy.t at T0 KA
  have HC := Lib.hid (cmpD_self a)
  clear he
  go_enter Tryz.func14, Tryz.ntmps14
  go_wp2_with fail
  refine (KA.out _ _ _ (by simp)).mono ?_
  rintro e w1 ⟨rfl, hb⟩
  replace T0 := (T0.more _).step hb
  clear hb
  obtain ⟨p0, p1, p2, p3, p4, p5, p6⟩ := T0.2.1.facts
  obtain ⟨q0, q1, q2, q3, q4, q5, q6⟩ := T0.2.2.facts
  go_wp2_with fail
  go_ret2
  exact ⟨by rw [HC.out]; rfl, T0.1⟩
theorem ne_toList {m n : Nat} (h : m ≠ n) : ¬ (natS m).toList = (natS n).toList := fun c => h ((natS_list_eq m n).1 c)
theorem sm_wrap {s m : Int} (hs : s = -1 ∨ s = 0 ∨ s = 1) (hm : m = -1 ∨ m = 0 ∨ m = 1) : wrap64 (s * m) = s * m := by
  rcases hs with rfl | rfl | rfl <;> rcases hm with rfl | rfl | rfl <;> exact IntWalk.wrap64_in _ (by decide)
set_option maxRecDepth 100000 in
set_option maxHeartbeats 2000000 in
theorem DCmp_walk (g1 g2 : Bool) (n1 n2 : Nat) (x1 x2 s t m : Int) (w : World)
    (KA : Hid (∀ (W : World) (T : TypeId) (A : Nat), A = W.heap.size → Calls Tryz.prog 35 #[.slice (some ⟨A, 0, none⟩) 2 2] (W.alloc (.cells #[.bool g1, .string (natS n1), .int .i64 x1, .bool g2, .string (natS n2), .int .i64 x2] T)) fun e w' => e = .returned (.int .i64 0) ∧ Below (W.alloc (.cells #[.bool g1, .string (natS n1), .int .i64 x1, .bool g2, .string (natS n2), .int .i64 x2] T)).heap.size (W.alloc (.cells #[.bool g1, .string (natS n1), .int .i64 x1, .bool g2, .string (natS n2), .int .i64 x2] T)) w'))
    (SA : Hid (∀ w, Calls Tryz.prog 36 #[.agg #[.bool g1, .string (natS n1), .int .i64 x1]] w fun e w' => e = .returned (.int .i64 s) ∧ Below w.heap.size w w'))
    (SB : Hid (∀ w, Calls Tryz.prog 36 #[.agg #[.bool g2, .string (natS n2), .int .i64 x2]] w fun e w' => e = .returned (.int .i64 t) ∧ Below w.heap.size w w'))
    (KM : Hid (s = t → ∀ w, Calls Tryz.prog 37 #[.agg #[.bool g1, .string (natS n1), .int .i64 x1], .agg #[.bool g2, .string (natS n2), .int .i64 x2]] w fun e w' => e = .returned (.int .i64 m) ∧ Below w.heap.size w w'))
    (hsm : wrap64 (s * m) = s * m) (hne : ¬ g1 = g2 ∨ (g1 = g2 ∧ n1 ≠ n2) ∨ (g1 = g2 ∧ n1 = n2 ∧ ¬ x1 = x2)) :
    Calls Tryz.prog 14 #[.agg #[.bool g1, .string (natS n1), .int .i64 x1], .agg #[.bool g2, .string (natS n2), .int .i64 x2]] w fun e w' => e = .returned (.tuple #[.int .i64 (if s < t then -1 else if t < s then 1 else s * m), .int .i64 0]) ∧ Below w.heap.size w w' := by
  have T0 := TB.start w ⟨g1, natS n1, x1⟩ ⟨g2, natS n2, x2⟩
  have HSM := Lib.hid hsm
  clear hsm
  have go : ∀ (r : Int), (s < t ∧ r = -1) ∨ (¬ s < t ∧ t < s ∧ r = 1) ∨ (s = t ∧ r = s * m) → Calls Tryz.prog 14 #[.agg #[.bool g1, .string (natS n1), .int .i64 x1], .agg #[.bool g2, .string (natS n2), .int .i64 x2]] w fun e w' => e = .returned (.tuple #[.int .i64 r, .int .i64 0]) ∧ Below w.heap.size w w' := by
    intro r hr
    rcases hne with hg | ⟨hg, hn⟩ | ⟨hg, hn, hx⟩
    · skip
      rcases hr with ⟨h1, rfl⟩ | ⟨h0, h1, rfl⟩ | ⟨rfl, rfl⟩
      · go_enter Tryz.func14, Tryz.ntmps14
        go_wp2_with fail
        refine (KA.out _ _ _ (by simp)).mono ?_
        rintro e w1 ⟨rfl, hb⟩
        replace T0 := (T0.more _).step hb
        clear hb
        obtain ⟨p0, p1, p2, p3, p4, p5, p6⟩ := T0.2.1.facts
        obtain ⟨q0, q1, q2, q3, q4, q5, q6⟩ := T0.2.2.facts
        go_wp2_with fail
        clear p0 p1 p2 p3 p4 p5 p6 q0 q1 q2 q3 q4 q5 q6
        have L0 := fun W (h : TB w ⟨g1, natS n1, x1⟩ ⟨g2, natS n2, x2⟩ W) => h.2.1.facts.2.1
        have L1 := fun W (h : TB w ⟨g1, natS n1, x1⟩ ⟨g2, natS n2, x2⟩ W) => h.2.1.facts.2.2.1
        have L2 := fun W (h : TB w ⟨g1, natS n1, x1⟩ ⟨g2, natS n2, x2⟩ W) => h.2.1.facts.2.2.2.1
        have L3 := fun W (h : TB w ⟨g1, natS n1, x1⟩ ⟨g2, natS n2, x2⟩ W) => h.2.2.facts.2.1
        have L4 := fun W (h : TB w ⟨g1, natS n1, x1⟩ ⟨g2, natS n2, x2⟩ W) => h.2.2.facts.2.2.1
        have L5 := fun W (h : TB w ⟨g1, natS n1, x1⟩ ⟨g2, natS n2, x2⟩ W) => h.2.2.facts.2.2.2.1
        go_region_held3 (TB w ⟨g1, natS n1, x1⟩ ⟨g2, natS n2, x2⟩) (first | assumption | exact TB.step (by assumption) (by assumption) | exact TB.drew (by assumption) | exact TB.drawn (by assumption) _)
          (first
            | (go_at_call 36; with_reducible refine (SA.out _).mono ?_; rintro e w' ⟨rfl, hb7⟩)
            | (go_at_call 36; with_reducible refine (SB.out _).mono ?_; rintro e w' ⟨rfl, hb7⟩))
        rename_i hHeld
        clear T0 L0 L1 L2 L3 L4 L5
        obtain ⟨p0, p1, p2, p3, p4, p5, p6⟩ := hHeld.2.1.facts
        obtain ⟨q0, q1, q2, q3, q4, q5, q6⟩ := hHeld.2.2.facts
        go_wp2_with fail
        go_ret2
        exact ⟨rfl, hHeld.1⟩
      · go_enter Tryz.func14, Tryz.ntmps14
        go_wp2_with fail
        refine (KA.out _ _ _ (by simp)).mono ?_
        rintro e w1 ⟨rfl, hb⟩
        replace T0 := (T0.more _).step hb
        clear hb
        obtain ⟨p0, p1, p2, p3, p4, p5, p6⟩ := T0.2.1.facts
        obtain ⟨q0, q1, q2, q3, q4, q5, q6⟩ := T0.2.2.facts
        go_wp2_with fail
        clear p0 p1 p2 p3 p4 p5 p6 q0 q1 q2 q3 q4 q5 q6
        have L0 := fun W (h : TB w ⟨g1, natS n1, x1⟩ ⟨g2, natS n2, x2⟩ W) => h.2.1.facts.2.1
        have L1 := fun W (h : TB w ⟨g1, natS n1, x1⟩ ⟨g2, natS n2, x2⟩ W) => h.2.1.facts.2.2.1
        have L2 := fun W (h : TB w ⟨g1, natS n1, x1⟩ ⟨g2, natS n2, x2⟩ W) => h.2.1.facts.2.2.2.1
        have L3 := fun W (h : TB w ⟨g1, natS n1, x1⟩ ⟨g2, natS n2, x2⟩ W) => h.2.2.facts.2.1
        have L4 := fun W (h : TB w ⟨g1, natS n1, x1⟩ ⟨g2, natS n2, x2⟩ W) => h.2.2.facts.2.2.1
        have L5 := fun W (h : TB w ⟨g1, natS n1, x1⟩ ⟨g2, natS n2, x2⟩ W) => h.2.2.facts.2.2.2.1
        go_region_held3 (TB w ⟨g1, natS n1, x1⟩ ⟨g2, natS n2, x2⟩) (first | assumption | exact TB.step (by assumption) (by assumption) | exact TB.drew (by assumption) | exact TB.drawn (by assumption) _)
          (first
            | (go_at_call 36; with_reducible refine (SA.out _).mono ?_; rintro e w' ⟨rfl, hb7⟩)
            | (go_at_call 36; with_reducible refine (SB.out _).mono ?_; rintro e w' ⟨rfl, hb7⟩))
        rename_i hHeld
        clear T0 L0 L1 L2 L3 L4 L5
        obtain ⟨p0, p1, p2, p3, p4, p5, p6⟩ := hHeld.2.1.facts
        obtain ⟨q0, q1, q2, q3, q4, q5, q6⟩ := hHeld.2.2.facts
        go_wp2_with fail
        go_ret2
        exact ⟨rfl, hHeld.1⟩
      · have KG := Lib.hid (KM.out rfl)
        go_enter Tryz.func14, Tryz.ntmps14
        go_wp2_with fail
        refine (KA.out _ _ _ (by simp)).mono ?_
        rintro e w1 ⟨rfl, hb⟩
        replace T0 := (T0.more _).step hb
        clear hb
        obtain ⟨p0, p1, p2, p3, p4, p5, p6⟩ := T0.2.1.facts
        obtain ⟨q0, q1, q2, q3, q4, q5, q6⟩ := T0.2.2.facts
        go_wp2_with fail
        clear p0 p1 p2 p3 p4 p5 p6 q0 q1 q2 q3 q4 q5 q6
        have L0 := fun W (h : TB w ⟨g1, natS n1, x1⟩ ⟨g2, natS n2, x2⟩ W) => h.2.1.facts.2.1
        have L1 := fun W (h : TB w ⟨g1, natS n1, x1⟩ ⟨g2, natS n2, x2⟩ W) => h.2.1.facts.2.2.1
        have L2 := fun W (h : TB w ⟨g1, natS n1, x1⟩ ⟨g2, natS n2, x2⟩ W) => h.2.1.facts.2.2.2.1
        have L3 := fun W (h : TB w ⟨g1, natS n1, x1⟩ ⟨g2, natS n2, x2⟩ W) => h.2.2.facts.2.1
        have L4 := fun W (h : TB w ⟨g1, natS n1, x1⟩ ⟨g2, natS n2, x2⟩ W) => h.2.2.facts.2.2.1
        have L5 := fun W (h : TB w ⟨g1, natS n1, x1⟩ ⟨g2, natS n2, x2⟩ W) => h.2.2.facts.2.2.2.1
        go_region_held3 (TB w ⟨g1, natS n1, x1⟩ ⟨g2, natS n2, x2⟩) (first | assumption | exact TB.step (by assumption) (by assumption) | exact TB.drew (by assumption) | exact TB.drawn (by assumption) _)
          (first
            | (go_at_call 36; with_reducible refine (SA.out _).mono ?_; rintro e w' ⟨rfl, hb7⟩)
            | (go_at_call 36; with_reducible refine (SB.out _).mono ?_; rintro e w' ⟨rfl, hb7⟩))
        rename_i hHeld
        clear T0 L0 L1 L2 L3 L4 L5
        obtain ⟨p0, p1, p2, p3, p4, p5, p6⟩ := hHeld.2.1.facts
        obtain ⟨q0, q1, q2, q3, q4, q5, q6⟩ := hHeld.2.2.facts
        go_wp2_with fail
        refine (KG.out _).mono ?_
        rintro e w2 ⟨rfl, hb⟩
        go_wp2_with fail
        go_ret2
        refine ⟨?_, (hHeld.step hb).1⟩
        show Ending.returned (.tuple #[.int .i64 (wrap64 (s * m)), .int .i64 0]) = _
        rw [HSM.out]
    · subst hg
      have hl := ne_toList hn
      rcases hr with ⟨h1, rfl⟩ | ⟨h0, h1, rfl⟩ | ⟨rfl, rfl⟩
      · go_enter Tryz.func14, Tryz.ntmps14
        go_wp2_with fail
        refine (KA.out _ _ _ (by simp)).mono ?_
        rintro e w1 ⟨rfl, hb⟩
        replace T0 := (T0.more _).step hb
        clear hb
        obtain ⟨p0, p1, p2, p3, p4, p5, p6⟩ := T0.2.1.facts
        obtain ⟨q0, q1, q2, q3, q4, q5, q6⟩ := T0.2.2.facts
        go_wp2_with fail
        clear p0 p1 p2 p3 p4 p5 p6 q0 q1 q2 q3 q4 q5 q6
        have L0 := fun W (h : TB w ⟨g1, natS n1, x1⟩ ⟨g1, natS n2, x2⟩ W) => h.2.1.facts.2.1
        have L1 := fun W (h : TB w ⟨g1, natS n1, x1⟩ ⟨g1, natS n2, x2⟩ W) => h.2.1.facts.2.2.1
        have L2 := fun W (h : TB w ⟨g1, natS n1, x1⟩ ⟨g1, natS n2, x2⟩ W) => h.2.1.facts.2.2.2.1
        have L3 := fun W (h : TB w ⟨g1, natS n1, x1⟩ ⟨g1, natS n2, x2⟩ W) => h.2.2.facts.2.1
        have L4 := fun W (h : TB w ⟨g1, natS n1, x1⟩ ⟨g1, natS n2, x2⟩ W) => h.2.2.facts.2.2.1
        have L5 := fun W (h : TB w ⟨g1, natS n1, x1⟩ ⟨g1, natS n2, x2⟩ W) => h.2.2.facts.2.2.2.1
        go_region_held3 (TB w ⟨g1, natS n1, x1⟩ ⟨g1, natS n2, x2⟩) (first | assumption | exact TB.step (by assumption) (by assumption) | exact TB.drew (by assumption) | exact TB.drawn (by assumption) _)
          (first
            | (go_at_call 36; with_reducible refine (SA.out _).mono ?_; rintro e w' ⟨rfl, hb7⟩)
            | (go_at_call 36; with_reducible refine (SB.out _).mono ?_; rintro e w' ⟨rfl, hb7⟩))
        rename_i hHeld
        clear T0 L0 L1 L2 L3 L4 L5
        obtain ⟨p0, p1, p2, p3, p4, p5, p6⟩ := hHeld.2.1.facts
        obtain ⟨q0, q1, q2, q3, q4, q5, q6⟩ := hHeld.2.2.facts
        go_wp2_with fail
        go_ret2
        exact ⟨rfl, hHeld.1⟩
      · go_enter Tryz.func14, Tryz.ntmps14
        go_wp2_with fail
        refine (KA.out _ _ _ (by simp)).mono ?_
        rintro e w1 ⟨rfl, hb⟩
        replace T0 := (T0.more _).step hb
        clear hb
        obtain ⟨p0, p1, p2, p3, p4, p5, p6⟩ := T0.2.1.facts
        obtain ⟨q0, q1, q2, q3, q4, q5, q6⟩ := T0.2.2.facts
        go_wp2_with fail
        clear p0 p1 p2 p3 p4 p5 p6 q0 q1 q2 q3 q4 q5 q6
        have L0 := fun W (h : TB w ⟨g1, natS n1, x1⟩ ⟨g1, natS n2, x2⟩ W) => h.2.1.facts.2.1
        have L1 := fun W (h : TB w ⟨g1, natS n1, x1⟩ ⟨g1, natS n2, x2⟩ W) => h.2.1.facts.2.2.1
        have L2 := fun W (h : TB w ⟨g1, natS n1, x1⟩ ⟨g1, natS n2, x2⟩ W) => h.2.1.facts.2.2.2.1
        have L3 := fun W (h : TB w ⟨g1, natS n1, x1⟩ ⟨g1, natS n2, x2⟩ W) => h.2.2.facts.2.1
        have L4 := fun W (h : TB w ⟨g1, natS n1, x1⟩ ⟨g1, natS n2, x2⟩ W) => h.2.2.facts.2.2.1
        have L5 := fun W (h : TB w ⟨g1, natS n1, x1⟩ ⟨g1, natS n2, x2⟩ W) => h.2.2.facts.2.2.2.1
        go_region_held3 (TB w ⟨g1, natS n1, x1⟩ ⟨g1, natS n2, x2⟩) (first | assumption | exact TB.step (by assumption) (by assumption) | exact TB.drew (by assumption) | exact TB.drawn (by assumption) _)
          (first
            | (go_at_call 36; with_reducible refine (SA.out _).mono ?_; rintro e w' ⟨rfl, hb7⟩)
            | (go_at_call 36; with_reducible refine (SB.out _).mono ?_; rintro e w' ⟨rfl, hb7⟩))
        rename_i hHeld
        clear T0 L0 L1 L2 L3 L4 L5
        obtain ⟨p0, p1, p2, p3, p4, p5, p6⟩ := hHeld.2.1.facts
        obtain ⟨q0, q1, q2, q3, q4, q5, q6⟩ := hHeld.2.2.facts
        go_wp2_with fail
        go_ret2
        exact ⟨rfl, hHeld.1⟩
      · have KG := Lib.hid (KM.out rfl)
        go_enter Tryz.func14, Tryz.ntmps14
        go_wp2_with fail
        refine (KA.out _ _ _ (by simp)).mono ?_
        rintro e w1 ⟨rfl, hb⟩
        replace T0 := (T0.more _).step hb
        clear hb
        obtain ⟨p0, p1, p2, p3, p4, p5, p6⟩ := T0.2.1.facts
        obtain ⟨q0, q1, q2, q3, q4, q5, q6⟩ := T0.2.2.facts
        go_wp2_with fail
        clear p0 p1 p2 p3 p4 p5 p6 q0 q1 q2 q3 q4 q5 q6
        have L0 := fun W (h : TB w ⟨g1, natS n1, x1⟩ ⟨g1, natS n2, x2⟩ W) => h.2.1.facts.2.1
        have L1 := fun W (h : TB w ⟨g1, natS n1, x1⟩ ⟨g1, natS n2, x2⟩ W) => h.2.1.facts.2.2.1
        have L2 := fun W (h : TB w ⟨g1, natS n1, x1⟩ ⟨g1, natS n2, x2⟩ W) => h.2.1.facts.2.2.2.1
        have L3 := fun W (h : TB w ⟨g1, natS n1, x1⟩ ⟨g1, natS n2, x2⟩ W) => h.2.2.facts.2.1
        have L4 := fun W (h : TB w ⟨g1, natS n1, x1⟩ ⟨g1, natS n2, x2⟩ W) => h.2.2.facts.2.2.1
        have L5 := fun W (h : TB w ⟨g1, natS n1, x1⟩ ⟨g1, natS n2, x2⟩ W) => h.2.2.facts.2.2.2.1
        go_region_held3 (TB w ⟨g1, natS n1, x1⟩ ⟨g1, natS n2, x2⟩) (first | assumption | exact TB.step (by assumption) (by assumption) | exact TB.drew (by assumption) | exact TB.drawn (by assumption) _)
          (first
            | (go_at_call 36; with_reducible refine (SA.out _).mono ?_; rintro e w' ⟨rfl, hb7⟩)
            | (go_at_call 36; with_reducible refine (SB.out _).mono ?_; rintro e w' ⟨rfl, hb7⟩))
        rename_i hHeld
        clear T0 L0 L1 L2 L3 L4 L5
        obtain ⟨p0, p1, p2, p3, p4, p5, p6⟩ := hHeld.2.1.facts
        obtain ⟨q0, q1, q2, q3, q4, q5, q6⟩ := hHeld.2.2.facts
        go_wp2_with fail
        refine (KG.out _).mono ?_
        rintro e w2 ⟨rfl, hb⟩
        go_wp2_with fail
        go_ret2
        refine ⟨?_, (hHeld.step hb).1⟩
        show Ending.returned (.tuple #[.int .i64 (wrap64 (s * m)), .int .i64 0]) = _
        rw [HSM.out]
    · subst hg hn
      rcases hr with ⟨h1, rfl⟩ | ⟨h0, h1, rfl⟩ | ⟨rfl, rfl⟩
      · go_enter Tryz.func14, Tryz.ntmps14
        go_wp2_with fail
        refine (KA.out _ _ _ (by simp)).mono ?_
        rintro e w1 ⟨rfl, hb⟩
        replace T0 := (T0.more _).step hb
        clear hb
        obtain ⟨p0, p1, p2, p3, p4, p5, p6⟩ := T0.2.1.facts
        obtain ⟨q0, q1, q2, q3, q4, q5, q6⟩ := T0.2.2.facts
        go_wp2_with fail
        clear p0 p1 p2 p3 p4 p5 p6 q0 q1 q2 q3 q4 q5 q6
        have L0 := fun W (h : TB w ⟨g1, natS n1, x1⟩ ⟨g1, natS n1, x2⟩ W) => h.2.1.facts.2.1
        have L1 := fun W (h : TB w ⟨g1, natS n1, x1⟩ ⟨g1, natS n1, x2⟩ W) => h.2.1.facts.2.2.1
        have L2 := fun W (h : TB w ⟨g1, natS n1, x1⟩ ⟨g1, natS n1, x2⟩ W) => h.2.1.facts.2.2.2.1
        have L3 := fun W (h : TB w ⟨g1, natS n1, x1⟩ ⟨g1, natS n1, x2⟩ W) => h.2.2.facts.2.1
        have L4 := fun W (h : TB w ⟨g1, natS n1, x1⟩ ⟨g1, natS n1, x2⟩ W) => h.2.2.facts.2.2.1
        have L5 := fun W (h : TB w ⟨g1, natS n1, x1⟩ ⟨g1, natS n1, x2⟩ W) => h.2.2.facts.2.2.2.1
        go_region_held3 (TB w ⟨g1, natS n1, x1⟩ ⟨g1, natS n1, x2⟩) (first | assumption | exact TB.step (by assumption) (by assumption) | exact TB.drew (by assumption) | exact TB.drawn (by assumption) _)
          (first
            | (go_at_call 36; with_reducible refine (SA.out _).mono ?_; rintro e w' ⟨rfl, hb7⟩)
            | (go_at_call 36; with_reducible refine (SB.out _).mono ?_; rintro e w' ⟨rfl, hb7⟩))
        rename_i hHeld
        clear T0 L0 L1 L2 L3 L4 L5
        obtain ⟨p0, p1, p2, p3, p4, p5, p6⟩ := hHeld.2.1.facts
        obtain ⟨q0, q1, q2, q3, q4, q5, q6⟩ := hHeld.2.2.facts
        go_wp2_with fail
        go_ret2
        exact ⟨rfl, hHeld.1⟩
      · go_enter Tryz.func14, Tryz.ntmps14
        go_wp2_with fail
        refine (KA.out _ _ _ (by simp)).mono ?_
        rintro e w1 ⟨rfl, hb⟩
        replace T0 := (T0.more _).step hb
        clear hb
        obtain ⟨p0, p1, p2, p3, p4, p5, p6⟩ := T0.2.1.facts
        obtain ⟨q0, q1, q2, q3, q4, q5, q6⟩ := T0.2.2.facts
        go_wp2_with fail
        clear p0 p1 p2 p3 p4 p5 p6 q0 q1 q2 q3 q4 q5 q6
        have L0 := fun W (h : TB w ⟨g1, natS n1, x1⟩ ⟨g1, natS n1, x2⟩ W) => h.2.1.facts.2.1
        have L1 := fun W (h : TB w ⟨g1, natS n1, x1⟩ ⟨g1, natS n1, x2⟩ W) => h.2.1.facts.2.2.1
        have L2 := fun W (h : TB w ⟨g1, natS n1, x1⟩ ⟨g1, natS n1, x2⟩ W) => h.2.1.facts.2.2.2.1
        have L3 := fun W (h : TB w ⟨g1, natS n1, x1⟩ ⟨g1, natS n1, x2⟩ W) => h.2.2.facts.2.1
        have L4 := fun W (h : TB w ⟨g1, natS n1, x1⟩ ⟨g1, natS n1, x2⟩ W) => h.2.2.facts.2.2.1
        have L5 := fun W (h : TB w ⟨g1, natS n1, x1⟩ ⟨g1, natS n1, x2⟩ W) => h.2.2.facts.2.2.2.1
        go_region_held3 (TB w ⟨g1, natS n1, x1⟩ ⟨g1, natS n1, x2⟩) (first | assumption | exact TB.step (by assumption) (by assumption) | exact TB.drew (by assumption) | exact TB.drawn (by assumption) _)
          (first
            | (go_at_call 36; with_reducible refine (SA.out _).mono ?_; rintro e w' ⟨rfl, hb7⟩)
            | (go_at_call 36; with_reducible refine (SB.out _).mono ?_; rintro e w' ⟨rfl, hb7⟩))
        rename_i hHeld
        clear T0 L0 L1 L2 L3 L4 L5
        obtain ⟨p0, p1, p2, p3, p4, p5, p6⟩ := hHeld.2.1.facts
        obtain ⟨q0, q1, q2, q3, q4, q5, q6⟩ := hHeld.2.2.facts
        go_wp2_with fail
        go_ret2
        exact ⟨rfl, hHeld.1⟩
      · have KG := Lib.hid (KM.out rfl)
        go_enter Tryz.func14, Tryz.ntmps14
        go_wp2_with fail
        refine (KA.out _ _ _ (by simp)).mono ?_
        rintro e w1 ⟨rfl, hb⟩
        replace T0 := (T0.more _).step hb
        clear hb
        obtain ⟨p0, p1, p2, p3, p4, p5, p6⟩ := T0.2.1.facts
        obtain ⟨q0, q1, q2, q3, q4, q5, q6⟩ := T0.2.2.facts
        go_wp2_with fail
        clear p0 p1 p2 p3 p4 p5 p6 q0 q1 q2 q3 q4 q5 q6
        have L0 := fun W (h : TB w ⟨g1, natS n1, x1⟩ ⟨g1, natS n1, x2⟩ W) => h.2.1.facts.2.1
        have L1 := fun W (h : TB w ⟨g1, natS n1, x1⟩ ⟨g1, natS n1, x2⟩ W) => h.2.1.facts.2.2.1
        have L2 := fun W (h : TB w ⟨g1, natS n1, x1⟩ ⟨g1, natS n1, x2⟩ W) => h.2.1.facts.2.2.2.1
        have L3 := fun W (h : TB w ⟨g1, natS n1, x1⟩ ⟨g1, natS n1, x2⟩ W) => h.2.2.facts.2.1
        have L4 := fun W (h : TB w ⟨g1, natS n1, x1⟩ ⟨g1, natS n1, x2⟩ W) => h.2.2.facts.2.2.1
        have L5 := fun W (h : TB w ⟨g1, natS n1, x1⟩ ⟨g1, natS n1, x2⟩ W) => h.2.2.facts.2.2.2.1
        go_region_held3 (TB w ⟨g1, natS n1, x1⟩ ⟨g1, natS n1, x2⟩) (first | assumption | exact TB.step (by assumption) (by assumption) | exact TB.drew (by assumption) | exact TB.drawn (by assumption) _)
          (first
            | (go_at_call 36; with_reducible refine (SA.out _).mono ?_; rintro e w' ⟨rfl, hb7⟩)
            | (go_at_call 36; with_reducible refine (SB.out _).mono ?_; rintro e w' ⟨rfl, hb7⟩))
        rename_i hHeld
        clear T0 L0 L1 L2 L3 L4 L5
        obtain ⟨p0, p1, p2, p3, p4, p5, p6⟩ := hHeld.2.1.facts
        obtain ⟨q0, q1, q2, q3, q4, q5, q6⟩ := hHeld.2.2.facts
        go_wp2_with fail
        refine (KG.out _).mono ?_
        rintro e w2 ⟨rfl, hb⟩
        go_wp2_with fail
        go_ret2
        refine ⟨?_, (hHeld.step hb).1⟩
        show Ending.returned (.tuple #[.int .i64 (wrap64 (s * m)), .int .i64 0]) = _
        rw [HSM.out]
  by_cases h1 : s < t
  · rw [if_pos h1]; exact go _ (Or.inl ⟨h1, rfl⟩)
  · rw [if_neg h1]
    by_cases h2 : t < s
    · rw [if_pos h2]; exact go _ (Or.inr (Or.inl ⟨h1, h2, rfl⟩))
    · rw [if_neg h2]; exact go _ (Or.inr (Or.inr ⟨by omega, rfl⟩))
theorem DCmp_c (a b : Dy) (w : World) (ha : a.Ok) (hb : b.Ok) :
    Calls Tryz.prog 14 #[.agg #[.bool a.g, .string (natS a.n), .int .i64 a.x], .agg #[.bool b.g, .string (natS b.n), .int .i64 b.x]] w fun e w' => e = .returned (.tuple #[.int .i64 (cmpD a b), .int .i64 0]) ∧ Below w.heap.size w w' := by
  by_cases hab : a = b
  · subst hab; exact DCmp_same a w ha
  · have he : dE [a.t, b.t] = 0 := dE_ok fun t ht => by
      rcases List.mem_cons.1 ht with rfl | ht
      · exact Dy.ok_t ha
      · rw [List.mem_singleton.1 ht]; exact Dy.ok_t hb
    have KA := Lib.hid (fun W T A hA => Dall2 a.t b.t W T A hA (by have := Dy.small ha; show (natS a.n).size ≤ _; omega) (by have := Dy.small hb; show (natS b.n).size ≤ _; omega))
    rw [he] at KA
    have hsb := sgD_b a
    have hmb := magC_b a b
    have hdis : ¬ a.g = b.g ∨ (a.g = b.g ∧ a.n ≠ b.n) ∨ (a.g = b.g ∧ a.n = b.n ∧ ¬ a.x = b.x) := by
      by_cases h1 : a.g = b.g
      · by_cases h2 : a.n = b.n
        · refine Or.inr (Or.inr ⟨h1, h2, fun h3 => hab ?_⟩)
          obtain ⟨g, n, x⟩ := a
          obtain ⟨g', n', x'⟩ := b
          simp only at h1 h2 h3
          rw [h1, h2, h3]
        · exact Or.inr (Or.inl ⟨h1, h2⟩)
      · exact Or.inl h1
    have K := DCmp_walk a.g b.g a.n b.n a.x b.x (sgD a) (sgD b) (if sgD a = 0 then 0 else magC a b) w KA (Lib.hid fun w => DSign_c a ha w) (Lib.hid fun w => DSign_c b hb w)
      (Lib.hid fun h w => by
        by_cases h0 : sgD a = 0
        · exfalso
          apply hab
          rw [Dy.zero_of ha h0, Dy.zero_of hb (h ▸ h0)]
        · rw [if_neg h0]
          exact Dmag_c a b w (Dy.num_of ha h0) (Dy.num_of hb (h ▸ h0)))
      (sm_wrap hsb (by split <;> omega)) hdis
    have e : (if sgD a < sgD b then -1 else if sgD b < sgD a then 1 else sgD a * (if sgD a = 0 then 0 else magC a b)) = cmpD a b := by
      by_cases h1 : sgD a < sgD b
      · rw [if_pos h1, cmpD_lt h1]
      · rw [if_neg h1]
        by_cases h2 : sgD b < sgD a
        · rw [if_pos h2, cmpD_gt h2]
        · rw [if_neg h2]
          by_cases h3 : sgD a = 0
          · rw [if_pos h3, h3, Int.mul_zero, cmpD_zero (by omega) h3]
          · rw [if_neg h3, cmpD_eq (by omega) h3]
    rw [e] at K
    exact K
end Go.Proofs.YtamcnnocjelcjaaGreatDoor
namespace Go.Proofs.YtamcnnocjelcjaaGreatDoor
open Go Go.RowKit Nt
def OB (w : World) (a : Dt) (W : World) : Prop := Below w.heap.size w W ∧ Box3 W w.heap.size (.bool a.g) (.string a.s) (.int .i64 a.x)
theorem OB.start (w : World) (a : Dt) : OB w a (w.alloc (.cells #[.bool a.g, .string a.s, .int .i64 a.x] 24)) := ⟨(Below.refl _ _).alloc (Nat.le_refl _) _, Box3.new w _ _ _⟩
theorem OB.step {w : World} {a : Dt} {W W' : World} (h : OB w a W) (hb : Below W.heap.size W W') : OB w a W' := ⟨below_then h.1 hb, h.2.step hb⟩
theorem OB.more {w : World} {a : Dt} {W : World} (h : OB w a W) (o : Obj) : OB w a (W.alloc o) := h.step ((Below.refl _ _).alloc (Nat.le_refl _) _)
end Go.Proofs.YtamcnnocjelcjaaGreatDoor
namespace Go.Proofs.YtamcnnocjelcjaaGreatDoor
open Go Go.RowKit Nt
theorem Dt.dy {t : Dt} (h : t.Ok) : ∃ d : Dy, d.Ok ∧ t = d.t := by
  obtain ⟨d, h1, h2, h3, h4⟩ := DOk_dy h
  exact ⟨d, h1, by obtain ⟨g, s, x⟩ := t; simp only at h2 h3 h4; rw [h2, h3, h4]; rfl⟩
end Go.Proofs.YtamcnnocjelcjaaGreatDoor
namespace Go.Proofs.YtamcnnocjelcjaaGreatDoor
open Go Go.RowKit Nt
theorem low_word {n i : Nat} (hz : ∀ j, j < i → dgt W n j = 0) (hd : dgt W n i ≠ 0) : lowN n = 64 * i + Lib.ctz 64 (dgt W n i) := by
  have h0 : n % W ^ i = 0 := by
    have := mod_eq_of_digits (b := W) n 0 i (fun j hj => by rw [hz j hj, dgt_def, Nat.zero_div, Nat.zero_mod])
    rwa [Nat.zero_mod] at this
  have hdl : dgt W n i < 18446744073709551616 := wd_lt n i
  obtain ⟨t1, t2, t3⟩ := Bt.tz_spec (Nat.pos_of_ne_zero hd) hdl
  have e : Lib.ctz 64 (dgt W n i) = Bt.tz (dgt W n i) := rfl
  rw [e]
  have hm : n = W ^ i * (n / W ^ i) := by have := Nat.div_add_mod n (W ^ i); rw [h0] at this; omega
  have hd2 : n / W ^ i = dgt W n i + W * (n / W ^ i / W) := by
    rw [dgt_def]; have := Nat.mod_add_div (n / W ^ i) W; omega
  generalize dgt W n i = d at *
  generalize n / W ^ i / W = q at *
  generalize hmm : n / W ^ i = m at *
  clear hz h0 e hd hdl hmm
  have hp : W = 2 ^ Bt.tz d * 2 ^ (64 - Bt.tz d) := by rw [← Nat.pow_add, show Bt.tz d + (64 - Bt.tz d) = 64 by omega]; exact W_two
  refine (od_unique (o := Bt.od d + 2 ^ (64 - Bt.tz d) * q) ?_ ?_).1
  · rw [show 64 - Bt.tz d = (64 - Bt.tz d - 1) + 1 by omega, Nat.pow_succ]
    have : 2 ^ (64 - Bt.tz d - 1) * 2 * q = 2 * (2 ^ (64 - Bt.tz d - 1) * q) := by rw [Nat.mul_comm (2 ^ (64 - Bt.tz d - 1)) 2, Nat.mul_assoc]
    omega
  · rw [hm, hd2, Nat.pow_add, Nat.pow_mul, ← W_two, Nat.add_mul, ← Nat.mul_assoc, Nat.mul_comm (Bt.od d), Nat.mul_assoc (W ^ i), t1]
    rw [Nat.mul_add]
    congr 1
    rw [hp]
    simp only [Nat.mul_assoc, Nat.mul_comm, Nat.mul_left_comm]
set_option maxRecDepth 100000 in
set_option maxHeartbeats 1000000 in
theorem LLow_c (A : Option Addr) (c n B : Nat) (w : World) (hL : nd W n ≤ 1000000000) (hr : Row w B A n (nd W n)) (hT : Bt.Tabs w) :
    Calls Tryz.prog 106 #[.slice A (nd W n) c] w fun e w' => e = .returned (.int .i64 (lowN n : Nat)) ∧ w = w' := by
  obtain ⟨L, hLe⟩ : ∃ L, L = nd W n := ⟨_, rfl⟩
  have HT := Lib.hid hT.1
  have hn : n < W ^ nd W n := lt_nd W2
  rw [← hLe] at hL hr hn ⊢
  have HR := Lib.hid hr
  have HN := Lib.hid hn
  clear hr hLe hT hn
  go_enter Tryz.func106, Tryz.ntmps106
  go_wp2_with fail
  go_loop [7] (fun i => ∃ k : Nat, k ≤ L ∧ i = .int .i64 k ∧ Hid (∀ j, j < k → dgt W n j = 0)) (fun i => L - (intOf i).toNat)
  case atStart => exact ⟨0, Nat.zero_le _, rfl, Lib.hid (fun j h => by omega)⟩
  case round =>
    obtain ⟨k, hk, rfl, hz⟩ := hrel
    by_cases hlt : k < L
    · obtain ⟨g, rfl, hg, hc⟩ := HR.out.at_ hlt
      have hdl := wd_lt n k
      by_cases hd : dgt W n k = 0
      · rw [hd] at hc
        have HZ := Lib.hid (show ∀ j, j < k + 1 → dgt W n j = 0 from fun j hj => by
          rcases Nat.lt_or_ge j k with h | h
          · exact hz.out j h
          · obtain rfl : j = k := by omega
            exact hd)
        clear hd hdl
        go_wp2_with fail
        go_round
        case rel => exact ⟨k + 1, by omega, by go_num, HZ⟩
        case measure => simp [intOf]; omega
      · have hne : (((dgt W n k : Nat) : Int) != 0) = true := by rw [bne_iff_ne]; omega
        have HE := Lib.hid (low_word hz.out hd)
        have KT := Lib.hid (fun w hT => Tryz.bits_TrailingZeros64 (dgt W n k) hdl w hT)
        have hct : Lib.ctz 64 (dgt W n k) < 64 := (Bt.tz_spec (Nat.pos_of_ne_zero hd) hdl).2.2
        generalize dgt W n k = d at *
        generalize Lib.ctz 64 d = t at *
        clear hd hdl
        go_wp2_with fail
        refine (KT.out _ (fun _ => HT.out)).mono ?_
        rintro e w' ⟨rfl, rfl⟩
        go_wp2_with fail
        go_ret
        exact ⟨by rw [HE.out, Int.natCast_add, Int.natCast_mul]; rfl, rfl⟩
    · obtain rfl : k = L := by omega
      have h0 : lowN n = 0 := by
        have : n = 0 := eq_of_digits (b := W) (L := k) HN.out (Nat.pow_pos W0) (fun i hi => by rw [hz.out i hi, dgt_def, Nat.zero_div, Nat.zero_mod])
        rw [this, lowN_zero]
      have HZ := Lib.hid h0
      clear h0
      go_wp2_with fail
      go_ret
      exact ⟨by rw [HZ.out]; rfl, rfl⟩
end Go.Proofs.YtamcnnocjelcjaaGreatDoor
namespace Go.Proofs.YtamcnnocjelcjaaGreatDoor
open Go Go.RowKit Nt
theorem fit_shift (g : Bool) (n : Nat) (x : Int) : mkD g (odN n) (x + (lowN n : Int)) = mkD g n x ∧ mkE (odN n) (x + (lowN n : Int)) = mkE n x := by
  by_cases h0 : n = 0
  · subst h0; rw [odN_zero, mkD_zero, mkD_zero, mkE_zero, mkE_zero]; exact ⟨rfl, rfl⟩
  · have h := mkD_shift g (odN n) (lowN n) (x + (lowN n : Int))
    rw [← (odN_spec h0).2, show x + (lowN n : Int) - (lowN n : Int) = x by omega] at h
    exact ⟨h.1.symm, h.2.symm⟩
theorem nd2_W {n m : Nat} (h : nd W n ≤ m) : nd 2 n ≤ 64 * m := (nd_pow (b := 2) (c := W) (e := 64) (by omega) (by omega) W_two n m).2 h
theorem fit_bits {n : Nat} : (131072 < nd 2 n - lowN n) ↔ ¬ fits (odN n) := by
  by_cases h0 : n = 0
  · subst h0; rw [odN_zero, nd_zero]; exact ⟨fun c => by omega, fun c => absurd fits_zero c⟩
  · have h1 := nd_odN h0
    have h2 := bits_le (odN n) 16384
    unfold fits
    omega
theorem Row.allocd {w : World} {B : Nat} {A : Option Addr} {n L : Nat} (h : Row w B A n L) (hB : B ≤ w.heap.size) (b : Obj) : Row (w.alloc b) B A n L := h.below ((Below.refl _ _).alloc hB _)
set_option maxRecDepth 100000 in
set_option maxHeartbeats 1000000 in
theorem DFit_c (g : Bool) (n : Nat) (x : Int) (A : Option Addr) (c B : Nat) (w : World) (hn : nd W n ≤ 10000) (hx : -2000000 ≤ x ∧ x ≤ 2000000) (hr : Row w B A n (nd W n)) (hB : B ≤ w.heap.size) (hT : Bt.Tabs w) :
    Calls Tryz.prog 63 #[.bool g, .slice A (nd W n) c, .int .i64 x] w (MkPost g n x w) := by
  have hbits := nd2_W hn
  have hll : lowN n ≤ nd 2 n := by
    by_cases h0 : n = 0
    · rw [h0, lowN_zero]; omega
    · exact Nat.le_of_lt (low_lt h0 (lowN_is n))
  have hfb := @fit_bits n
  have K1 : Hid (∀ b, Calls Tryz.prog 106 #[.slice A (nd W n) c] (w.alloc b) fun e w' => e = .returned (.int .i64 (lowN n : Nat)) ∧ w.alloc b = w') := Lib.hid fun b => LLow_c A c n B _ (by omega) (hr.allocd hB b) (box_tabs hT)
  have K2 : Hid (∀ b, Calls Tryz.prog 107 #[.slice A (nd W n) c] (w.alloc b) fun e w' => e = .returned (.int .i64 (nd 2 n : Nat)) ∧ w.alloc b = w') := Lib.hid fun b => Len_c A c n B _ (by omega) (hr.allocd hB b)
  have K3 : Hid (∀ b, Calls Tryz.prog 97 #[.slice A (nd W n) c, .int .i64 (lowN n : Nat)] (w.alloc b) (NumPost (odN n) (w.alloc b))) := Lib.hid fun b => by
    have := Shr_c A c n (lowN n) B (w.alloc b) (by omega) (by omega) (hr.allocd hB b) (Nat.le_trans hB (by simp))
    unfold odN; exact this
  have hno : nd W (odN n) ≤ 10000 := Nat.le_trans (nd_mono W2 (odN_le n)) hn
  have K4 := Lib.hid (fun A' c' w' (hr' : Row w' w'.heap.size A' (odN n) (nd W (odN n))) => Bytes_c A' c' (odN n) w'.heap.size w' (by omega) hr' (Nat.le_refl _))
  have hfs := fit_shift g n x
  by_cases hfit : fits (odN n)
  · have KM : Hid (∀ w, Calls Tryz.prog 108 #[.bool g, .string (natS (odN n)), .int .i64 (x + (lowN n : Int))] w fun e w' => e = .returned (.tuple #[(mkD g n x).v, .int .i64 (mkE n x)]) ∧ Below w.heap.size w w') := Lib.hid fun w => by
      have := DMake_c g (odN n) (x + (lowN n : Int)) w hfit (by omega)
      unfold MkPost at this
      rw [hfs.1, hfs.2] at this
      exact this
    have h1 : ¬ (131072 : Int) < ((nd 2 n : Nat) : Int) - ((lowN n : Nat) : Int) := by
      have : ¬ 131072 < nd 2 n - lowN n := fun c => hfb.1 c hfit
      omega
    clear hfb hr hB hT hfit hfs
    clear hno hn
    unfold MkPost
    generalize mkD g n x = D at *
    generalize mkE n x = E at *
    go_enter Tryz.func63, Tryz.ntmps63
    go_wp2_with fail
    refine (K1.out _).mono ?_
    rintro e w' ⟨rfl, rfl⟩
    go_wp2_with fail
    refine (K2.out _).mono ?_
    rintro e w' ⟨rfl, rfl⟩
    go_wp2_with fail
    refine (K3.out _).mono ?_
    rintro e w1 hnp
    obtain ⟨A3, c3, rfl, hc3, hr3, hb3⟩ := hnp.get
    have HR3 := Lib.hid hr3
    clear hr3 hc3 hnp
    go_wp2_with fail
    refine (K4.out _ _ _ HR3.out).mono ?_
    rintro e w2 ⟨rfl, hb4⟩
    have hb := below_then hb3 hb4
    clear hb3 hb4
    go_wp2_with fail
    refine (KM.out _).mono ?_
    rintro e w3 ⟨rfl, hb5⟩
    have hb := below_then hb hb5
    obtain ⟨hcl, hfz⟩ := bcell hb
    have hsz := box1 hb
    clear hb5
    unfold Dy.v
    go_wp2_with fail
    refine bodyPost_ret (v := .tuple #[D.v, .int .i64 E]) (by simp [results, Tryz.results63, go_sem, hcl, hsz, Dy.v]) rfl ⟨rfl, ?_⟩
    repeat (refine Below.setCell ?_ (by simp) _)
    exact box_below hb
  · have hno2 : ¬ mkOk3 n x := by
      rintro (h | ⟨h, _⟩)
      · subst h; rw [odN_zero] at hfit; exact hfit fits_zero
      · exact hfit h
    have HNO := Lib.hid hno2
    have h1 : (131072 : Int) < ((nd 2 n : Nat) : Int) - ((lowN n : Nat) : Int) := by
      have := hfb.2 hfit
      omega
    clear hfb hr hB hT hfit hfs hno2
    clear hno hn
    go_enter Tryz.func63, Tryz.ntmps63
    go_wp2_with fail
    refine (K1.out _).mono ?_
    rintro e w' ⟨rfl, rfl⟩
    go_wp2_with fail
    refine (K2.out _).mono ?_
    rintro e w' ⟨rfl, rfl⟩
    go_wp2_with fail
    refine bodyPost_ret (v := .tuple #[.agg #[.bool false, .string ⟨#[]⟩, .int .i64 0], .int .i64 4]) (by simp [results, Tryz.results63, go_sem]) rfl (MkPost.no HNO.out rfl ?_)
    repeat (refine Below.setCell ?_ (by simp) _)
    exact (Below.refl _ _).alloc (Nat.le_refl _) _
end Go.Proofs.YtamcnnocjelcjaaGreatDoor
namespace Go.Proofs.YtamcnnocjelcjaaGreatDoor
open Go Go.RowKit Nt
def sgnd (g : Bool) (m : Nat) : Int := if g then -(m : Int) else (m : Int)
def sumG (g h : Bool) (X Y : Nat) : Bool := if g = h then g else if X < Y then h else g
def sumN (g h : Bool) (X Y : Nat) : Nat := if g = h then X + Y else if X < Y then Y - X else X - Y
theorem sum_abs (g h : Bool) (X Y : Nat) : (sgnd g X + sgnd h Y).natAbs = sumN g h X Y := by
  unfold sgnd sumN
  cases g <;> cases h <;> simp <;> (try split) <;> omega
theorem sum_sgn (g h : Bool) (X Y : Nat) (h0 : sumN g h X Y ≠ 0) : decide (sgnd g X + sgnd h Y < 0) = sumG g h X Y := by
  by_cases hl : X < Y <;> cases g <;> cases h <;> simp [sgnd, sumN, sumG, hl] at h0 ⊢ <;> omega
theorem sum_mk (g h : Bool) (X Y : Nat) (x : Int) : mkD (decide (sgnd g X + sgnd h Y < 0)) (sgnd g X + sgnd h Y).natAbs x = mkD (sumG g h X Y) (sumN g h X Y) x := by
  rw [sum_abs]
  by_cases h0 : sumN g h X Y = 0
  · rw [h0, mkD_zero, mkD_zero]
  · rw [sum_sgn g h X Y h0]
@[irreducible] def hiD (a b : Dy) : Dy := mkD (sumG a.g b.g (upN a b) b.n) (sumN a.g b.g (upN a b) b.n) b.x
@[irreducible] def hiE (a b : Dy) : Int := mkE (sumN a.g b.g (upN a b) b.n) b.x
theorem hiD_eq (a b : Dy) : hiD a b = mkD (sumG a.g b.g (upN a b) b.n) (sumN a.g b.g (upN a b) b.n) b.x := by unfold hiD; rfl
theorem hiE_eq (a b : Dy) : hiE a b = mkE (sumN a.g b.g (upN a b) b.n) b.x := by unfold hiE; rfl
@[irreducible] def addD (a b : Dy) : Dy := if a.n = 0 then b else if b.n = 0 then a else if a.x < b.x then hiD b a else hiD a b
@[irreducible] def addE (a b : Dy) : Int := if a.n = 0 then 0 else if b.n = 0 then 0 else if a.x < b.x then hiE b a else hiE a b
theorem add_zl {a b : Dy} (h : a.n = 0) : addD a b = b ∧ addE a b = 0 := by unfold addD addE; rw [if_pos h, if_pos h]; exact ⟨rfl, rfl⟩
theorem add_zr {a b : Dy} (h0 : a.n ≠ 0) (h : b.n = 0) : addD a b = a ∧ addE a b = 0 := by unfold addD addE; rw [if_neg h0, if_neg h0, if_pos h, if_pos h]; exact ⟨rfl, rfl⟩
theorem add_lt {a b : Dy} (h0 : a.n ≠ 0) (h1 : b.n ≠ 0) (h : a.x < b.x) : addD a b = hiD b a ∧ addE a b = hiE b a := by unfold addD addE; rw [if_neg h0, if_neg h0, if_neg h1, if_neg h1, if_pos h, if_pos h]; exact ⟨rfl, rfl⟩
theorem add_ge {a b : Dy} (h0 : a.n ≠ 0) (h1 : b.n ≠ 0) (h : ¬ a.x < b.x) : addD a b = hiD a b ∧ addE a b = hiE a b := by unfold addD addE; rw [if_neg h0, if_neg h0, if_neg h1, if_neg h1, if_neg h, if_neg h]; exact ⟨rfl, rfl⟩
theorem add_Ok {a b : Dy} (ha : a.Ok) (hb : b.Ok) : (addD a b).Ok := by
  unfold addD
  split
  · exact hb
  · split
    · exact ha
    · split
      · rw [hiD_eq]; exact mkD_Ok _ _ _
      · rw [hiD_eq]; exact mkD_Ok _ _ _
theorem sgnd_i64 {m : Nat} (h : m ≤ 9223372036854775807) : IntKind.i64.wrap (m : Int) = (m : Int) ∧ IntKind.i64.wrap (-(m : Int)) = -(m : Int) := ⟨IntWalk.i64_in _ (by omega), IntWalk.i64_in _ (by omega)⟩
set_option maxRecDepth 100000 in
theorem Dsigned_c (g : Bool) (m : Nat) (w : World) (hm : m ≤ 9223372036854775807) :
    Calls Tryz.prog 104 #[.bool g, .int .u64 (m : Nat)] w fun e w' => e = .returned (.int .i64 (sgnd g m)) ∧ w = w' := by
  obtain ⟨h1, h2⟩ := sgnd_i64 hm
  have h3 : wrap64 (m : Int) = (m : Int) := IntWalk.wrap64_in _ (by omega)
  have h4 : wrap64 (-(m : Int)) = -(m : Int) := IntWalk.wrap64_in _ (by omega)
  cases g
  · go_enter Tryz.func104, Tryz.ntmps104
    go_wp2
    go_ret
    exact ⟨rfl, rfl⟩
  · go_enter Tryz.func104, Tryz.ntmps104
    go_wp2
    go_ret
    exact ⟨rfl, rfl⟩
end Go.Proofs.YtamcnnocjelcjaaGreatDoor
namespace Go.Proofs.YtamcnnocjelcjaaGreatDoor
open Go Go.RowKit Nt
theorem len64_nd (m : Nat) (hm : m < 18446744073709551616) (w : World) : Calls Tryz.prog 103 #[.int .u64 (m : Nat)] w fun e w' => e = .returned (.int .i64 (nd 2 m : Nat)) ∧ w' = w := by
  have := Tryz.bits_Len64 (m : Int) w (by omega) (by omega)
  rw [Int.toNat_natCast, bitLen_nd hm] at this
  exact this
def BrPost (a b : Dy) (w : World) (e : Ending) (w' : World) : Prop := ∃ (D : Dy) (ok : Bool), e = .returned (.tuple #[.agg #[.bool D.g, .string (natS D.n), .int .i64 D.x], .bool ok]) ∧ (ok = true → D = hiD a b ∧ hiE a b = 0) ∧ Below w.heap.size w w'
theorem TB3 {w : World} {a b : Dt} {W w1 : World} {o : Obj} (h : TB w a b W) (hb : Below (W.alloc o).heap.size (W.alloc o) w1) : TB w a b w1 := (h.more o).step hb
theorem pow_lt62 {m j : Nat} (h : nd 2 m + j ≤ 62) : m * 2 ^ j < 4611686018427387904 := by
  have h1 : m < 2 ^ nd 2 m := lt_nd (by omega)
  have h2 : m * 2 ^ j < 2 ^ nd 2 m * 2 ^ j := Nat.mul_lt_mul_of_pos_right h1 (Nat.two_pow_pos j)
  rw [← Nat.pow_add] at h2
  exact Nat.lt_of_lt_of_le h2 (Nat.le_trans (Nat.pow_le_pow_right (by omega) h) (by decide))
theorem lt62 {m : Nat} (h : nd 2 m ≤ 62) : m < 4611686018427387904 := by
  have := pow_lt62 (m := m) (j := 0) (by omega)
  rwa [Nat.pow_zero, Nat.mul_one] at this
set_option maxRecDepth 100000 in
set_option maxHeartbeats 2000000 in
theorem Dbrief_no (a b : Dy) (j : Nat) (w : World) (ha : a.Num) (hb : b.Num) (hj : j ≤ 3000000) (hno : brB a.n = false ∨ (brB a.n = true ∧ brB b.n = false) ∨ (brB a.n = true ∧ brB b.n = true ∧ 62 < j) ∨ (brB a.n = true ∧ brB b.n = true ∧ ¬ 62 < j ∧ 62 < nd 2 a.n + j) ∨ (brB a.n = true ∧ brB b.n = true ∧ ¬ 62 < j ∧ ¬ 62 < nd 2 a.n + j ∧ 62 < nd 2 b.n)) :
    Calls Tryz.prog 60 #[.agg #[.bool a.g, .string (natS a.n), .int .i64 a.x], .agg #[.bool b.g, .string (natS b.n), .int .i64 b.x], .int .i64 (j : Nat)] w (BrPost a b w) := by
  have KA := Lib.hid (fun w => Small_c a.n w ha.1)
  have KB := Lib.hid (fun w => Small_c b.n w hb.1)
  have hba := bits_131072' ha.1
  have hbb := bits_131072' hb.1
  have T0 := TB.start w a.t b.t
  unfold Dy.t at T0
  have KLa : Hid (∀ w, brB a.n = true → Calls Tryz.prog 103 #[.int .u64 (brN a.n : Nat)] w fun e w' => e = .returned (.int .i64 (nd 2 a.n : Nat)) ∧ w' = w) := Lib.hid fun w h => by
    have h1 := br_lt.1 (brB_true h)
    have h2 : brN a.n = a.n := brN_yes (brB_true h)
    rw [h2]; exact len64_nd a.n h1 w
  have KLb : Hid (∀ w, brB b.n = true → Calls Tryz.prog 103 #[.int .u64 (brN b.n : Nat)] w fun e w' => e = .returned (.int .i64 (nd 2 b.n : Nat)) ∧ w' = w) := Lib.hid fun w h => by
    have h1 := br_lt.1 (brB_true h)
    have h2 : brN b.n = b.n := brN_yes (brB_true h)
    rw [h2]; exact len64_nd b.n h1 w
  clear ha hb
  rcases hno with c1 | ⟨c1, c2⟩ | ⟨c1, c2, c3⟩ | ⟨c1, c2, c3, c4⟩ | ⟨c1, c2, c3, c4, c5⟩
  all_goals
    go_enter Tryz.func60, Tryz.ntmps60
    go_wp2_with fail
    refine (KA.out _).mono ?_
    rintro e w1 ⟨rfl, hb⟩
    have hb1 := (TB.start w a.t b.t).more (.cells #[.bool false, .string ⟨#[]⟩, .int .i64 0] 24) |>.1
    obtain ⟨hcl, hfz⟩ := bcell hb
    have hsz : w.heap.size + 2 < w1.heap.size := by have := hb.size; simp at this; omega
    replace T0 := TB3 T0 hb
    obtain ⟨p0, p1, p2, p3, p4, p5, p6⟩ := T0.2.1.facts
    obtain ⟨q0, q1, q2, q3, q4, q5, q6⟩ := T0.2.2.facts
    go_wp2_with fail
    refine (KB.out _).mono ?_
    rintro e w2 ⟨rfl, hbb2⟩
    replace T0 := T0.step hbb2
    have hb3 := hb.trans (hbb2.mono hb.size)
    clear hb hbb2 hcl hfz p0 p1 p2 p3 p4 p5 p6 q0 q1 q2 q3 q4 q5 q6
    obtain ⟨hcl, hfz⟩ := bcell hb3
    have hsz2 : w.heap.size + 2 < w2.heap.size := by have := hb3.size; simp at this; omega
    go_wp2_with (first
      | (go_at_call 103; (with_reducible refine (KLa.out _ c1).mono ?_); rintro e w' ⟨rfl, rfl⟩)
      | (go_at_call 103; (with_reducible refine (KLb.out _ c2).mono ?_); rintro e w' ⟨rfl, rfl⟩))
    refine bodyPost_ret (v := .tuple #[.agg #[.bool false, .string ⟨#[]⟩, .int .i64 0], .bool false]) (by simp [results, Tryz.results60, go_sem, hcl, hsz, hsz2]) rfl ⟨Dy.zero, false, by rw [← natS_zero]; rfl, fun c => (by cases c), ?_⟩
    repeat (refine Below.setCell ?_ (by simp; omega) _)
    exact T0.1
end Go.Proofs.YtamcnnocjelcjaaGreatDoor
namespace Go.Proofs.YtamcnnocjelcjaaGreatDoor
open Go Go.RowKit Nt
theorem shl_u64 {m j X : Nat} (hX : X = m * 2 ^ j) (h : X < 18446744073709551616) : Hid (IntKind.u64.wrap ((m : Int) * 2 ^ j) = (X : Int)) := Lib.hid (by
  rw [wr_pow (s := 2 ^ j) rfl, ← hX, IntKind.wrap_u64]; clear hX; omega)
theorem sgnd_b (g : Bool) {m : Nat} (h : m < 4611686018427387904) : -4611686018427387904 < sgnd g m ∧ sgnd g m < 4611686018427387904 := by
  unfold sgnd; cases g <;> simp <;> omega
set_option maxRecDepth 100000 in
set_option maxHeartbeats 2000000 in
theorem Dbrief_yes (a b : Dy) (j : Nat) (w : World) (ha : a.Num) (hb : b.Num) (hj : j = (a.x - b.x).toNat) (c1 : brB a.n = true) (c2 : brB b.n = true) (c3 : ¬ 62 < j) (c4 : ¬ 62 < nd 2 a.n + j) (c5 : ¬ 62 < nd 2 b.n) :
    Calls Tryz.prog 60 #[.agg #[.bool a.g, .string (natS a.n), .int .i64 a.x], .agg #[.bool b.g, .string (natS b.n), .int .i64 b.x], .int .i64 (j : Nat)] w (BrPost a b w) := by
  have hna : brN a.n = a.n := brN_yes (brB_true c1)
  have hnb : brN b.n = b.n := brN_yes (brB_true c2)
  have KA := Lib.hid (fun w => Small_c a.n w ha.1)
  have KB := Lib.hid (fun w => Small_c b.n w hb.1)
  rw [hna, c1] at KA
  rw [hnb, c2] at KB
  have T0 := TB.start w a.t b.t
  unfold Dy.t at T0
  have KLa := Lib.hid (fun w => len64_nd a.n (br_lt.1 (brB_true c1)) w)
  have KLb := Lib.hid (fun w => len64_nd b.n (br_lt.1 (brB_true c2)) w)
  obtain ⟨X, hX⟩ : ∃ X, X = a.n * 2 ^ j := ⟨_, rfl⟩
  have hXb : X < 4611686018427387904 := by rw [hX]; exact pow_lt62 (by omega)
  have hYb : b.n < 4611686018427387904 := lt62 (by omega)
  have HSH := shl_u64 hX (by omega)
  have KSa := Lib.hid (fun w => Dsigned_c a.g X w (by omega))
  have KSb := Lib.hid (fun w => Dsigned_c b.g b.n w (by omega))
  have hs1 := sgnd_b a.g hXb
  have hs2 := sgnd_b b.g hYb
  have hxb := hb.2.2
  obtain ⟨S, hS⟩ : ∃ S, sgnd a.g X + sgnd b.g b.n = S := ⟨_, rfl⟩
  have KO := Lib.hid (fun w => DOf_c S b.x w (by omega) (by omega))
  have hmk := sum_mk a.g b.g X b.n b.x
  have hme := sum_abs a.g b.g X b.n
  rw [hS] at hmk hme
  have hup : upN a b = X := by rw [upN_eq, ← hj, hX]
  have hD : mkD (decide (S < 0)) S.natAbs b.x = hiD a b := by rw [hiD_eq, hup]; exact hmk
  have hE : mkE S.natAbs b.x = hiE a b := by rw [hiE_eq, hup, hme]
  unfold MkPost at KO
  rw [hD, hE] at KO
  have hw : IntKind.i64.wrap S = S := IntWalk.i64_in _ (by omega)
  have hw2 : wrap64 S = S := IntWalk.wrap64_in _ (by omega)
  have HD : (hiE a b == 0) = true ↔ hiE a b = 0 := beq_iff_eq
  clear hX hmk hme hup hD hE ha hb hna hnb c1 c2 hj
  generalize sgnd a.g X = s1 at *
  generalize sgnd b.g b.n = s2 at *
  have HDD := Lib.hid HD
  clear HD
  generalize hE9 : hiE a b = E at *
  have HE9 := Lib.hid hE9
  clear hE9
  generalize hh : hiD a b = D at *
  have HH := Lib.hid hh
  clear hh
  go_enter Tryz.func60, Tryz.ntmps60
  go_wp2_with fail
  refine (KA.out _).mono ?_
  rintro e w1 ⟨rfl, hb⟩
  have hsz : w.heap.size + 2 < w1.heap.size := by have := hb.size; simp at this; omega
  replace T0 := TB3 T0 hb
  obtain ⟨p0, p1, p2, p3, p4, p5, p6⟩ := T0.2.1.facts
  obtain ⟨q0, q1, q2, q3, q4, q5, q6⟩ := T0.2.2.facts
  go_wp2_with fail
  refine (KB.out _).mono ?_
  rintro e w2 ⟨rfl, hbb2⟩
  replace T0 := T0.step hbb2
  have hb3 := hb.trans (hbb2.mono hb.size)
  clear hb hbb2 p0 p1 p2 p3 p4 p5 p6 q0 q1 q2 q3 q4 q5 q6
  go_wp2_with (first
    | (go_at_call 103; (with_reducible refine (KLa.out _).mono ?_); rintro e w' ⟨rfl, rfl⟩)
    | (go_at_call 103; (with_reducible refine (KLb.out _).mono ?_); rintro e w' ⟨rfl, rfl⟩))
  have L0 := fun W (h : TB w ⟨a.g, natS a.n, a.x⟩ ⟨b.g, natS b.n, b.x⟩ W) => h.2.1.facts.2.1
  have L3 := fun W (h : TB w ⟨a.g, natS a.n, a.x⟩ ⟨b.g, natS b.n, b.x⟩ W) => h.2.2.facts.2.1
  go_region_held3 (TB w ⟨a.g, natS a.n, a.x⟩ ⟨b.g, natS b.n, b.x⟩) (first | assumption | exact TB.step (by assumption) (by assumption) | exact TB.drew (by assumption) | exact TB.drawn (by assumption) _)
    (first
      | (go_at_call 104; rw [HSH.out]; (with_reducible refine (KSa.out _).mono ?_); rintro e w' ⟨rfl, rfl⟩)
      | (go_at_call 104; (with_reducible refine (KSb.out _).mono ?_); rintro e w' ⟨rfl, rfl⟩))
  rename_i hHeld
  clear T0 L0 L3
  have T0 := hHeld
  clear hHeld
  have hb4 := hb3.drew
  clear hb3
  generalize w'.drew = w3 at *
  obtain ⟨p0, p1, p2, p3, p4, p5, p6⟩ := T0.2.1.facts
  obtain ⟨q0, q1, q2, q3, q4, q5, q6⟩ := T0.2.2.facts
  go_wp2_with fail
  refine (KO.out _).mono ?_
  rintro e w4 ⟨rfl, hb5⟩
  replace T0 := T0.step hb5
  have hb6 := (hb4.trans (hb5.mono hb4.size)).alloc (hb4.trans (hb5.mono hb4.size)).size (.cells #[.bool D.g, .string (natS D.n), .int .i64 D.x] 24)
  have hb7 := (T0.more (.cells #[.bool D.g, .string (natS D.n), .int .i64 D.x] 24)).1
  clear hb4 hb5 p0 p1 p2 p3 p4 p5 p6 q0 q1 q2 q3 q4 q5 q6
  obtain ⟨hcl, hfz⟩ := bcell hb6
  have hsz2 : w.heap.size + 2 < w4.heap.size + 1 := by have := hb6.size; simp at this; omega
  unfold Dy.v
  by_cases hE0 : E = 0
  · subst hE0
    go_wp2_with fail
    refine bodyPost_ret (v := .tuple #[.agg #[.bool D.g, .string (natS D.n), .int .i64 D.x], .bool true]) (by simp [results, Tryz.results60, go_sem, hcl, hsz, hsz2]) rfl ⟨D, true, rfl, fun _ => ⟨HH.out.symm, HE9.out⟩, ?_⟩
    repeat (refine Below.setCell ?_ (by simp; omega) _)
    exact hb7
  · have hE1 : (E == 0) = false := by rw [beq_eq_false_iff_ne]; exact hE0
    go_wp2_with fail
    refine bodyPost_ret (v := .tuple #[.agg #[.bool D.g, .string (natS D.n), .int .i64 D.x], .bool false]) (by simp [results, Tryz.results60, go_sem, hcl, hsz, hsz2]) rfl ⟨D, false, rfl, fun c => (by cases c), ?_⟩
    repeat (refine Below.setCell ?_ (by simp; omega) _)
    exact hb7
end Go.Proofs.YtamcnnocjelcjaaGreatDoor
namespace Go.Proofs.YtamcnnocjelcjaaGreatDoor
open Go Go.RowKit Nt
theorem Dbrief_c (a b : Dy) (j : Nat) (w : World) (ha : a.Num) (hb : b.Num) (hj : j = (a.x - b.x).toNat) (hj2 : j ≤ 3000000) :
    Calls Tryz.prog 60 #[.agg #[.bool a.g, .string (natS a.n), .int .i64 a.x], .agg #[.bool b.g, .string (natS b.n), .int .i64 b.x], .int .i64 (j : Nat)] w (BrPost a b w) := by
  cases c1 : brB a.n with
  | false => exact Dbrief_no a b j w ha hb hj2 (Or.inl c1)
  | true =>
    cases c2 : brB b.n with
    | false => exact Dbrief_no a b j w ha hb hj2 (Or.inr (Or.inl ⟨c1, c2⟩))
    | true =>
      by_cases c3 : 62 < j
      · exact Dbrief_no a b j w ha hb hj2 (Or.inr (Or.inr (Or.inl ⟨c1, c2, c3⟩)))
      · by_cases c4 : 62 < nd 2 a.n + j
        · exact Dbrief_no a b j w ha hb hj2 (Or.inr (Or.inr (Or.inr (Or.inl ⟨c1, c2, c3, c4⟩))))
        · by_cases c5 : 62 < nd 2 b.n
          · exact Dbrief_no a b j w ha hb hj2 (Or.inr (Or.inr (Or.inr (Or.inr ⟨c1, c2, c3, c4, c5⟩))))
          · exact Dbrief_yes a b j w ha hb hj c1 c2 c3 c4 c5
def TC (w : World) (a b : Dt) (W : World) : Prop := TB w a b W ∧ Box3 W (w.heap.size + 2) (.bool false) (.string ⟨#[]⟩) (.int .i64 0)
theorem TC.start (w : World) (a b : Dt) : TC w a b (((w.alloc (.cells #[.bool a.g, .string a.s, .int .i64 a.x] 24)).alloc (.cells #[.bool b.g, .string b.s, .int .i64 b.x] 24)).alloc (.cells #[.bool false, .string ⟨#[]⟩, .int .i64 0] 24)) := by
  refine ⟨(TB.start w a b).more _, ?_⟩
  have := Box3.new ((w.alloc (.cells #[.bool a.g, .string a.s, .int .i64 a.x] 24)).alloc (.cells #[.bool b.g, .string b.s, .int .i64 b.x] 24)) (.bool false) (.string ⟨#[]⟩) (.int .i64 0)
  simpa using this
theorem TC.step {w : World} {a b : Dt} {W W' : World} (h : TC w a b W) (hb : Below W.heap.size W W') : TC w a b W' := ⟨h.1.step hb, h.2.step hb⟩
theorem TC.more {w : World} {a b : Dt} {W : World} (h : TC w a b W) (o : Obj) : TC w a b (W.alloc o) := h.step ((Below.refl _ _).alloc (Nat.le_refl _) _)
theorem TC.drawn {w : World} {a b : Dt} {W : World} (h : TC w a b W) (n : Nat) : TC w a b (W.drewN n) := h.step (below_drewN (Below.refl _ _) n)
theorem TC.drew {w : World} {a b : Dt} {W : World} (h : TC w a b W) : TC w a b W.drew := h.step (Below.refl _ _).drew
theorem TC.fin {w : World} {a b : Dt} {W : World} (h : TC w a b W) (x y z : Value) : Below w.heap.size w (((W.setCell ⟨w.heap.size + 2, 0, none⟩ x).setCell ⟨w.heap.size + 2, 1, none⟩ y).setCell ⟨w.heap.size + 2, 2, none⟩ z) := below_put h.1.1 (by omega) x y z
theorem all_ok2 (a b : Dy) (ha : a.Ok) (hb : b.Ok) (W : World) (T : TypeId) (A : Nat) (hA : A = W.heap.size) :
    Calls Tryz.prog 35 #[.slice (some ⟨A, 0, none⟩) 2 2] (W.alloc (.cells #[.bool a.g, .string (natS a.n), .int .i64 a.x, .bool b.g, .string (natS b.n), .int .i64 b.x] T)) fun e w' => e = .returned (.int .i64 0) ∧ Below (W.alloc (.cells #[.bool a.g, .string (natS a.n), .int .i64 a.x, .bool b.g, .string (natS b.n), .int .i64 b.x] T)).heap.size (W.alloc (.cells #[.bool a.g, .string (natS a.n), .int .i64 a.x, .bool b.g, .string (natS b.n), .int .i64 b.x] T)) w' := by
  have := Dall2 a.t b.t W T A hA (by have := Dy.small ha; show (natS a.n).size ≤ _; omega) (by have := Dy.small hb; show (natS b.n).size ≤ _; omega)
  rwa [dE_ok (fun t ht => by
    rcases List.mem_cons.1 ht with rfl | ht
    · exact Dy.ok_t ha
    · rw [List.mem_singleton.1 ht]; exact Dy.ok_t hb)] at this
set_option maxRecDepth 100000 in
set_option maxHeartbeats 2000000 in
theorem DAdd_zl (b : Dy) (w : World) (hb : b.Ok) :
    Calls Tryz.prog 38 #[.agg #[.bool false, .string ⟨#[]⟩, .int .i64 0], .agg #[.bool b.g, .string (natS b.n), .int .i64 b.x]] w fun e w' => e = .returned (.tuple #[.agg #[.bool b.g, .string (natS b.n), .int .i64 b.x], .int .i64 0]) ∧ Below w.heap.size w w' := by
  have KA := Lib.hid (fun W T A hA => all_ok2 Dy.zero b (Or.inl rfl) hb W T A hA)
  simp only [Dy.zero, natS_zero] at KA
  have T0 := TC.start w ⟨false, ⟨#[]⟩, 0⟩ b.t
  unfold Dy.t at T0
  clear hb
  go_enter Tryz.func38, Tryz.ntmps38
  go_wp2_with fail
  refine (KA.out _ _ _ (by simp)).mono ?_
  rintro e w1 ⟨rfl, hb⟩
  replace T0 := (T0.more _).step hb
  clear hb
  obtain ⟨p0, p1, p2, p3, p4, p5, p6⟩ := T0.1.2.1.facts
  obtain ⟨q0, q1, q2, q3, q4, q5, q6⟩ := T0.1.2.2.facts
  obtain ⟨r0, r1, r2, r3, r4, r5, r6⟩ := T0.2.facts
  go_wp2_with fail
  refine bodyPost_ret (v := .tuple #[.agg #[.bool b.g, .string (natS b.n), .int .i64 b.x], .int .i64 0]) (by simp [results, Tryz.results38, go_sem, r0, r1, r2, r3]) rfl ⟨rfl, ?_⟩
  repeat (refine Below.setCell ?_ (by simp; omega) _)
  exact T0.1.1
set_option maxRecDepth 100000 in
set_option maxHeartbeats 2000000 in
theorem DAdd_zr (a : Dy) (w : World) (ha : a.Num) :
    Calls Tryz.prog 38 #[.agg #[.bool a.g, .string (natS a.n), .int .i64 a.x], .agg #[.bool false, .string ⟨#[]⟩, .int .i64 0]] w fun e w' => e = .returned (.tuple #[.agg #[.bool a.g, .string (natS a.n), .int .i64 a.x], .int .i64 0]) ∧ Below w.heap.size w w' := by
  have KA := Lib.hid (fun W T A hA => all_ok2 a Dy.zero (Or.inr ha) (Or.inl rfl) W T A hA)
  simp only [Dy.zero, natS_zero] at KA
  have T0 := TC.start w a.t ⟨false, ⟨#[]⟩, 0⟩
  unfold Dy.t at T0
  have hE := natS_full (odd_ne ha.2.1)
  have hE2 := natS_full2 (odd_ne ha.2.1)
  clear ha
  go_enter Tryz.func38, Tryz.ntmps38
  go_wp2_with fail
  refine (KA.out _ _ _ (by simp)).mono ?_
  rintro e w1 ⟨rfl, hb⟩
  replace T0 := (T0.more _).step hb
  clear hb
  obtain ⟨p0, p1, p2, p3, p4, p5, p6⟩ := T0.1.2.1.facts
  obtain ⟨q0, q1, q2, q3, q4, q5, q6⟩ := T0.1.2.2.facts
  obtain ⟨r0, r1, r2, r3, r4, r5, r6⟩ := T0.2.facts
  go_wp2_with fail
  refine bodyPost_ret (v := .tuple #[.agg #[.bool a.g, .string (natS a.n), .int .i64 a.x], .int .i64 0]) (by simp [results, Tryz.results38, go_sem, r0, r1, r2, r3]) rfl ⟨rfl, ?_⟩
  repeat (refine Below.setCell ?_ (by simp; omega) _)
  exact T0.1.1
end Go.Proofs.YtamcnnocjelcjaaGreatDoor
namespace Go.Proofs.YtamcnnocjelcjaaGreatDoor
open Go Go.RowKit Nt
theorem TC.swap {w : World} {a b : Dt} {W : World} (h : TC w a b W) : TC w b a ((((((W.setCell ⟨w.heap.size, 0, none⟩ (.bool b.g)).setCell ⟨w.heap.size, 1, none⟩ (.string b.s)).setCell ⟨w.heap.size, 2, none⟩ (.int .i64 b.x)).setCell ⟨w.heap.size + 1, 0, none⟩ (.bool a.g)).setCell ⟨w.heap.size + 1, 1, none⟩ (.string a.s)).setCell ⟨w.heap.size + 1, 2, none⟩ (.int .i64 a.x)) := by
  obtain ⟨⟨h1, h2, h3⟩, h4⟩ := h
  refine ⟨⟨below_put (below_put h1 (Nat.le_refl _) _ _ _) (by omega) _ _ _, ?_, ?_⟩, ?_⟩
  · exact Box3.far (h2.put _ _ _) (by omega) _ _ _
  · exact Box3.put (Box3.far h3 (by omega) _ _ _) _ _ _
  · exact Box3.far (Box3.far h4 (by omega) _ _ _) (by omega) _ _ _
theorem hi_long {p q : Dy} (hp : p.Num) (hq : q.Num) (hx : 131072 < p.x - q.x) : hiD p q = Dy.zero ∧ hiE p q = 4 := by
  obtain ⟨j, hj⟩ : ∃ j, j = (p.x - q.x).toNat := ⟨_, rfl⟩
  obtain ⟨E, hE⟩ : ∃ E, E = 131072 := ⟨_, rfl⟩
  have hj2 : E + 1 ≤ j := by omega
  have hup : upN p q = p.n * 2 ^ j := by rw [upN_eq, ← hj]
  have hy : q.n < 2 ^ E := (lt_pow_iff (b := 2) (by omega) E q.n).2 (by rw [hE]; exact bits_131072' hq.1)
  have hX : 2 ^ (E + 1) ≤ upN p q := by
    rw [hup]
    exact Nat.le_trans (Nat.pow_le_pow_right (by omega) hj2) (Nat.le_mul_of_pos_left _ (Nat.pos_of_ne_zero (odd_ne hp.2.1)))
  have hev : upN p q % 2 = 0 := by
    rw [hup, show j = (j - 1) + 1 by omega, Nat.pow_succ, ← Nat.mul_assoc]; exact Nat.mul_mod_left _ _
  have hqo := hq.2.1
  rw [Nat.pow_succ] at hX
  have hbig : ∀ N, nd 2 N ≤ 131072 → N < 2 ^ E := fun N h => (lt_pow_iff (b := 2) (by omega) E N).2 (by omega)
  generalize (2 : Nat) ^ E = P at *
  clear hE hj2 hj
  have key : ∀ N, N % 2 = 1 → P ≤ N → ¬ mkOk3 N q.x := by
    intro N ho hN hk
    rcases hk with hk | ⟨hk, _⟩
    · exact odd_ne ho hk
    · rw [odN_odd ho] at hk
      have h2 := hbig N (bits_131072' hk)
      omega
  have hN : ¬ mkOk3 (sumN p.g q.g (upN p q) q.n) q.x := by
    unfold sumN
    split
    · exact key _ (by omega) (by omega)
    · rw [if_neg (by omega)]
      exact key _ (by omega) (by omega)
  exact ⟨by rw [hiD_eq, mkD_no hN], by rw [hiE_eq, mkE_no hN]⟩
theorem hi_same {p q : Dy} (h : p.g = q.g) (X : Nat) (hX : upN p q = X) : hiD p q = mkD p.g (X + q.n) q.x ∧ hiE p q = mkE (X + q.n) q.x := by
  rw [hiD_eq, hiE_eq, hX]; unfold sumG sumN; rw [if_pos h, if_pos h]; exact ⟨rfl, rfl⟩
theorem hi_lt {p q : Dy} (h : ¬ p.g = q.g) (X : Nat) (hX : upN p q = X) (hl : X < q.n) : hiD p q = mkD q.g (q.n - X) q.x ∧ hiE p q = mkE (q.n - X) q.x := by
  rw [hiD_eq, hiE_eq, hX]; unfold sumG sumN; rw [if_neg h, if_neg h, if_pos hl, if_pos hl]; exact ⟨rfl, rfl⟩
theorem hi_ge {p q : Dy} (h : ¬ p.g = q.g) (X : Nat) (hX : upN p q = X) (hl : ¬ X < q.n) : hiD p q = mkD p.g (X - q.n) q.x ∧ hiE p q = mkE (X - q.n) q.x := by
  rw [hiD_eq, hiE_eq, hX]; unfold sumG sumN; rw [if_neg h, if_neg h, if_neg hl, if_neg hl]; exact ⟨rfl, rfl⟩
theorem read_nat (n : Nat) (w : World) (hf : fits n) : Calls Tryz.prog 62 #[.string (natS n)] w (NumPost n w) := by
  have := Read_c (natS n) w (by rw [natS_size]; unfold fits at hf; omega)
  rwa [bytesN_natS] at this
theorem fits_W {n : Nat} (h : fits n) : nd W n ≤ 2048 := by
  have := words_bytes n
  unfold fits at h
  omega
end Go.Proofs.YtamcnnocjelcjaaGreatDoor
namespace Go.Proofs.YtamcnnocjelcjaaGreatDoor
open Go Go.RowKit Nt
def TD (w : World) (a b : Dt) (W : World) : Prop := TB w a b W ∧ ∃ x y z, Box3 W (w.heap.size + 2) x y z
theorem TD.step {w : World} {a b : Dt} {W W' : World} (h : TD w a b W) (hb : Below W.heap.size W W') : TD w a b W' := by
  obtain ⟨h1, x, y, z, h2⟩ := h; exact ⟨h1.step hb, x, y, z, h2.step hb⟩
theorem TD.drawn {w : World} {a b : Dt} {W : World} (h : TD w a b W) (n : Nat) : TD w a b (W.drewN n) := h.step (below_drewN (Below.refl _ _) n)
theorem TD.drew {w : World} {a b : Dt} {W : World} (h : TD w a b W) : TD w a b W.drew := h.step (Below.refl _ _).drew
theorem TC.td {w : World} {a b : Dt} {W : World} (h : TC w a b W) : TD w a b W := ⟨h.1, _, _, _, h.2⟩
theorem TD.put {w : World} {a b : Dt} {W : World} (h : TD w a b W) (x y z : Value) : TD w a b (((W.setCell ⟨w.heap.size + 2, 0, none⟩ x).setCell ⟨w.heap.size + 2, 1, none⟩ y).setCell ⟨w.heap.size + 2, 2, none⟩ z) := by
  obtain ⟨⟨h1, h2, h3⟩, x', y', z', h4⟩ := h
  exact ⟨⟨below_put h1 (by omega) _ _ _, h2.far (by omega) _ _ _, h3.far (by omega) _ _ _⟩, _, _, _, h4.put _ _ _⟩
theorem TD.res {w : World} {a b : Dt} {W : World} (h : TD w a b W) : w.heap.size + 2 < W.heap.size ∧ (W.cell? ⟨w.heap.size + 2, 0, none⟩).isSome = true ∧ (W.cell? ⟨w.heap.size + 2, 1, none⟩).isSome = true ∧ (W.cell? ⟨w.heap.size + 2, 2, none⟩).isSome = true ∧ W.frozen? ⟨w.heap.size + 2, 0, none⟩ = false ∧ W.frozen? ⟨w.heap.size + 2, 1, none⟩ = false ∧ W.frozen? ⟨w.heap.size + 2, 2, none⟩ = false := by
  obtain ⟨h1, x, y, z, h4⟩ := h
  obtain ⟨r0, r1, r2, r3, r4, r5, r6⟩ := h4.facts
  exact ⟨r0, by rw [r1]; rfl, by rw [r2]; rfl, by rw [r3]; rfl, r4, r5, r6⟩
@[irreducible] def cellAt (W : World) (B i : Nat) : Value := (W.cell? ⟨B, i, none⟩).getD undef
theorem cellAt_eq {W : World} {B i : Nat} {v : Value} (h : W.cell? ⟨B, i, none⟩ = some v) : W.cell? ⟨B, i, none⟩ = some (cellAt W B i) := by unfold cellAt; rw [h]; rfl
theorem TD.cells {w : World} {a b : Dt} {W : World} (h : TD w a b W) : w.heap.size + 2 < W.heap.size ∧ W.cell? ⟨w.heap.size + 2, 0, none⟩ = some (cellAt W (w.heap.size + 2) 0) ∧ W.cell? ⟨w.heap.size + 2, 1, none⟩ = some (cellAt W (w.heap.size + 2) 1) ∧ W.cell? ⟨w.heap.size + 2, 2, none⟩ = some (cellAt W (w.heap.size + 2) 2) ∧ W.frozen? ⟨w.heap.size + 2, 0, none⟩ = false ∧ W.frozen? ⟨w.heap.size + 2, 1, none⟩ = false ∧ W.frozen? ⟨w.heap.size + 2, 2, none⟩ = false := by
  obtain ⟨h1, x, y, z, h4⟩ := h
  obtain ⟨r0, r1, r2, r3, r4, r5, r6⟩ := h4.facts
  exact ⟨r0, cellAt_eq r1, cellAt_eq r2, cellAt_eq r3, r4, r5, r6⟩
theorem nd_addW {x y m : Nat} (hx : nd W x ≤ m) (hy : nd W y ≤ m) : nd W (x + y) ≤ m + 1 := by
  refine nd_le W2 ?_
  have h1 := (lt_pow_iff W2 m x).2 hx
  have h2 := (lt_pow_iff W2 m y).2 hy
  rw [Nat.pow_succ]
  have h4 := Nat.mul_le_mul_left (W ^ m) W2
  omega
set_option maxRecDepth 100000 in
set_option maxHeartbeats 4000000 in
theorem DAdd_num (a b : Dy) (w : World) (ha : a.Num) (hb : b.Num) (hG : Globs glT w) :
    Calls Tryz.prog 38 #[.agg #[.bool a.g, .string (natS a.n), .int .i64 a.x], .agg #[.bool b.g, .string (natS b.n), .int .i64 b.x]] w fun e w' => e = .returned (.tuple #[(addD a b).v, .int .i64 (addE a b)]) ∧ Below w.heap.size w w' := by
  have KA := Lib.hid (fun W T A hA => all_ok2 a b (Or.inr ha) (Or.inr hb) W T A hA)
  have T0 := TC.start w a.t b.t
  have hsw : ∃ p q : Dy, p.Num ∧ q.Num ∧ q.x ≤ p.x ∧ Hid (addD a b = hiD p q ∧ addE a b = hiE p q) ∧ ((a.x < b.x ∧ p = b ∧ q = a) ∨ (¬ a.x < b.x ∧ p = a ∧ q = b)) := by
    by_cases h : a.x < b.x
    · exact ⟨b, a, hb, ha, by omega, Lib.hid (add_lt (odd_ne ha.2.1) (odd_ne hb.2.1) h), Or.inl ⟨h, rfl, rfl⟩⟩
    · exact ⟨a, b, ha, hb, by omega, Lib.hid (add_ge (odd_ne ha.2.1) (odd_ne hb.2.1) h), Or.inr ⟨h, rfl, rfl⟩⟩
  obtain ⟨p, q, hp, hq, hle, HADD, hsw⟩ := hsw
  clear ha hb
  obtain ⟨j, hj⟩ : ∃ j, j = (p.x - q.x).toNat := ⟨_, rfl⟩
  have hpx := hp.2.2
  have hqx := hq.2.2
  have hjx : p.x - q.x = (j : Int) := by omega
  have KB := Lib.hid (fun w => Dbrief_c p q j w hp hq hj (by omega))
  have hEp := natS_full (odd_ne hp.2.1)
  have hEp2 := natS_full2 (odd_ne hp.2.1)
  have hEq := natS_full (odd_ne hq.2.1)
  have hEq2 := natS_full2 (odd_ne hq.2.1)
  have HTB := Lib.hid (fun W (h : TC w p.t q.t W) => tabs_of (hG.below h.1.1 (Nat.le_refl _)))
  have HGG := Lib.hid hG
  have HP := Lib.hid hp
  have HQ := Lib.hid hq
  have HJ := Lib.hid hj
  clear hp hq hG hj
  rcases hsw with ⟨hlt, h1, h2⟩ | ⟨hlt, h1, h2⟩
  case' inl =>
    subst h1 h2
    unfold Dy.t at T0
    go_enter Tryz.func38, Tryz.ntmps38
    go_wp2_with fail
    refine (KA.out _ _ _ (by simp)).mono ?_
    rintro e w1 ⟨rfl, hb⟩
    replace T0 := (T0.more _).step hb
    clear hb
    obtain ⟨p0, p1, p2, p3, p4, p5, p6⟩ := T0.1.2.1.facts
    obtain ⟨q0, q1, q2, q3, q4, q5, q6⟩ := T0.1.2.2.facts
    go_wp2_with fail
    refine (KB.out _).mono ?_
    rintro e w2 ⟨D, ok, rfl, hok, hb⟩
    replace T0 := (TC.swap T0).step hb
    clear hb p0 p1 p2 p3 p4 p5 p6 q0 q1 q2 q3 q4 q5 q6
  case' inr =>
    subst h1 h2
    unfold Dy.t at T0
    go_enter Tryz.func38, Tryz.ntmps38
    go_wp2_with fail
    refine (KA.out _ _ _ (by simp)).mono ?_
    rintro e w1 ⟨rfl, hb⟩
    replace T0 := (T0.more _).step hb
    clear hb
    obtain ⟨p0, p1, p2, p3, p4, p5, p6⟩ := T0.1.2.1.facts
    obtain ⟨q0, q1, q2, q3, q4, q5, q6⟩ := T0.1.2.2.facts
    go_wp2_with fail
    refine (KB.out _).mono ?_
    rintro e w2 ⟨D, ok, rfl, hok, hb⟩
    replace T0 := T0.step hb
    clear hb p0 p1 p2 p3 p4 p5 p6 q0 q1 q2 q3 q4 q5 q6
  all_goals
    have hok2 := Lib.hid hok
    clear hok
    cases ok
    case' true =>
      have hDD := hok2.out rfl
      have HDD := Lib.hid hDD
      clear hDD hok2
      replace T0 := T0.more (.cells #[.bool D.g, .string (natS D.n), .int .i64 D.x] 24)
      obtain ⟨r0, r1, r2, r3, r4, r5, r6⟩ := T0.2.facts
      go_wp2_with fail
      refine bodyPost_ret (v := .tuple #[.agg #[.bool D.g, .string (natS D.n), .int .i64 D.x], .int .i64 0]) (by simp [results, Tryz.results38, go_sem, r0, r1, r2, r3]) rfl ⟨?_, ?_⟩
      · rw [HADD.out.1, HADD.out.2, ← HDD.out.1, HDD.out.2]; rfl
      · repeat (refine Below.setCell ?_ (by simp; omega) _)
        exact T0.1.1
  all_goals
    clear hok2
    have T1 : TC w p.t q.t _ := (T0.more (.cells #[.bool D.g, .string (natS D.n), .int .i64 D.x] 24))
    have HT0 := Lib.hid T0
    clear T0
    by_cases hlong : 131072 < j
    case' pos =>
      have hL := hi_long HP.out HQ.out (by omega)
      have HL := Lib.hid hL
      clear hL
      obtain ⟨r0, r1, r2, r3, r4, r5, r6⟩ := (HT0.out.more (.cells #[.bool D.g, .string (natS D.n), .int .i64 D.x] 24)).2.facts
      go_wp2_with fail
      refine bodyPost_ret (v := .tuple #[.agg #[.bool false, .string ⟨#[]⟩, .int .i64 0], .int .i64 4]) (by simp [results, Tryz.results38, go_sem, r0, r1, r2, r3]) rfl ⟨?_, ?_⟩
      · rw [HADD.out.1, HADD.out.2, HL.out.1, HL.out.2, Dy.zero_v]
      · repeat (refine Below.setCell ?_ (by simp; omega) _)
        exact T1.1.1
  all_goals
    obtain ⟨X, hX⟩ : ∃ X, X = p.n * 2 ^ j := ⟨_, rfl⟩
    have HUP := Lib.hid (show upN p q = X by rw [upN_eq, ← HJ.out, hX])
    have hfp := fits_W HP.out.1
    have hfq := fits_W HQ.out.1
    have hXW : nd W X ≤ 4097 := by
      have h1 := nd_mul_pow (j := j) (odd_ne HP.out.2.1)
      rw [← hX] at h1
      have h2 := bits_131072' HP.out.1
      exact (nd_pow (b := 2) (c := W) (e := 64) (by omega) (by omega) W_two X 4097).1 (by omega)
    have KRp := Lib.hid (fun w => read_nat p.n w HP.out.1)
    have KRq := Lib.hid (fun w => read_nat q.n w HQ.out.1)
    have KS : Hid (∀ (A : Option Addr) (c : Nat) (W' : World), Row W' W'.heap.size A p.n (nd W p.n) → Calls Tryz.prog 61 #[.slice A (nd W p.n) c, .int .i64 (j : Nat)] W' (NumPost X W')) := Lib.hid fun A c W' h => by
      rw [hX]; exact Shl_c A c p.n j W'.heap.size W' (by omega) h (Nat.le_refl _)
    clear hX
    have L0 : ∀ W, TC w p.t q.t W → W.cell? ⟨w.heap.size, 0, none⟩ = some (.bool p.g) := fun W h => h.1.2.1.facts.2.1
    have L1 : ∀ W, TC w p.t q.t W → W.cell? ⟨w.heap.size, 1, none⟩ = some (.string (natS p.n)) := fun W h => h.1.2.1.facts.2.2.1
    have L2 : ∀ W, TC w p.t q.t W → W.cell? ⟨w.heap.size, 2, none⟩ = some (.int .i64 p.x) := fun W h => h.1.2.1.facts.2.2.2.1
    have L3 : ∀ W, TC w p.t q.t W → W.cell? ⟨w.heap.size + 1, 0, none⟩ = some (.bool q.g) := fun W h => h.1.2.2.facts.2.1
    have L4 : ∀ W, TC w p.t q.t W → W.cell? ⟨w.heap.size + 1, 1, none⟩ = some (.string (natS q.n)) := fun W h => h.1.2.2.facts.2.2.1
    have L5 : ∀ W, TC w p.t q.t W → W.cell? ⟨w.heap.size + 1, 2, none⟩ = some (.int .i64 q.x) := fun W h => h.1.2.2.facts.2.2.2.1
    go_wp2_with fail
    go_region_held3 (TC w p.t q.t) (first | assumption | exact TC.step (by assumption) (by assumption) | exact TC.drew (by assumption) | exact TC.drawn (by assumption) _)
      (first
        | (go_at_call 61; (refine (KS.out _ _ _ (by assumption)).mono ?_); rintro e wb hnp2; obtain ⟨A2, c2, rfl, hc2, hr2, hb8⟩ := hnp2.get)
        | (go_at_call 62; (with_reducible refine (KRp.out _).mono ?_); rintro e wa hnp1; obtain ⟨A1, c1, rfl, hc1, hr1, hb7⟩ := hnp1.get)
        | (go_at_call 62; (with_reducible refine (KRq.out _).mono ?_); rintro e wc hnp3; obtain ⟨A3, c3, rfl, hc3, hr3, hb9⟩ := hnp3.get))
    rename_i hHeld
    have hx2 := (hr2.below hb9).more hb9.size
    have HX2 := Lib.hid hx2
    have HY2 := Lib.hid hr3
    have T2 := hHeld
    clear hHeld T1 HT0 hr1 hr2 hr3 hx2 hc1 hc2 hc3 hnp1 hnp2 hnp3 hb7 hb8 hb9
    have KF : Hid (∀ (g : Bool) (N : Nat) (A : Option Addr) (c : Nat) (W' : World), nd W N ≤ 10000 → Row W' W'.heap.size A N (nd W N) → Bt.Tabs W' → Calls Tryz.prog 63 #[.bool g, .slice A (nd W N) c, .int .i64 q.x] W' (MkPost g N q.x W')) := Lib.hid fun g N A c W' h1 h2 h3 => DFit_c g N q.x A c W'.heap.size W' h1 (by have := HQ.out.2.2; omega) h2 (Nat.le_refl _) h3
    obtain ⟨p0, p1, p2, p3, p4, p5, p6⟩ := T2.1.2.1.facts
    obtain ⟨q0, q1, q2, q3, q4, q5, q6⟩ := T2.1.2.2.facts
    replace p1 : wc.cell? ⟨w.heap.size, 0, none⟩ = some (.bool p.g) := p1
    replace q1 : wc.cell? ⟨w.heap.size + 1, 0, none⟩ = some (.bool q.g) := q1
    replace HTB : Hid (∀ W, TD w p.t q.t W → Bt.Tabs W) := Lib.hid fun W h => tabs_of (HGG.out.below h.1.1 (Nat.le_refl _))
    clear L0 L1 L2 L3 L4 L5
    by_cases hg : p.g = q.g
    case' pos =>
      have HNW : Hid (nd W (X + q.n) ≤ 10000) := Lib.hid (Nat.le_trans (nd_addW (x := X) (y := q.n) (m := 4097) (by omega) (by omega)) (by omega))
      have HRES := Lib.hid (hi_same hg X HUP.out)
      go_wp2_with fail
      clear p0 p1 p2 p3 p4 p5 p6 q0 q1 q2 q3 q4 q5 q6
      have T3 : TD w p.t q.t wc.drew := T2.drew.td
      have KO := Lib.hid (Add_c A2 A3 c2 c3 X q.n _ wc.drew (by omega) (by omega) (HX2.out.drewN 1) (HY2.out.drewN 1) (Nat.le_refl _))
      have M0 : ∀ W, TD w p.t q.t W → W.cell? ⟨w.heap.size, 0, none⟩ = some (.bool p.g) := fun W h => h.1.2.1.facts.2.1
      have M3 : ∀ W, TD w p.t q.t W → W.cell? ⟨w.heap.size + 1, 0, none⟩ = some (.bool q.g) := fun W h => h.1.2.2.facts.2.1
      have M5 : ∀ W, TD w p.t q.t W → W.cell? ⟨w.heap.size + 1, 2, none⟩ = some (.int .i64 q.x) := fun W h => h.1.2.2.facts.2.2.2.1
      have M6 := fun W (h : TD w p.t q.t W) => h.cells.2.1
      have M7 := fun W (h : TD w p.t q.t W) => h.cells.2.2.1
      have M8 := fun W (h : TD w p.t q.t W) => h.cells.2.2.2.1
      have M9 := fun W (h : TD w p.t q.t W) => h.cells.2.2.2.2.1
      have M10 := fun W (h : TD w p.t q.t W) => h.cells.2.2.2.2.2.1
      have M11 := fun W (h : TD w p.t q.t W) => h.cells.2.2.2.2.2.2
      go_region_held3 (TD w p.t q.t) (first | assumption | exact TD.step (by assumption) (by assumption) | exact TD.put (by assumption) _ _ _ | exact TD.drew (by assumption) | exact TD.drawn (by assumption) _)
        (first
          | (go_at_call 64; (refine KO.out.mono ?_); rintro e wd hnp4; obtain ⟨A4, c4, rfl, hc4, hr4, hb10⟩ := hnp4.get)
          | (go_at_call 63; (refine (KF.out _ _ _ _ _ HNW.out (by assumption) (HTB.out _ (by assumption))).mono ?_); rintro e we ⟨rfl, hb11⟩; have HSV := Lib.hid (TD.step (a := p.t) (b := q.t) (w := w) (by assumption) hb11); unfold Dy.v))
      obtain ⟨r0, r1, r2, r3, r4, r5, r6⟩ := HSV.out.cells
      have hfin := below_put HSV.out.1.1 (show w.heap.size ≤ w.heap.size + 2 by omega)
      clear T3 M0 M3 M5 M6 M7 M8 M9 M10 M11
      go_wp2_with fail
      refine bodyPost_ret (v := .tuple #[(mkD q.g (X + q.n) q.x).v, .int .i64 (mkE (X + q.n) q.x)]) (by simp [results, Tryz.results38, go_sem, r0, r1, r2, r3, Dy.v]) rfl ⟨?_, ?_⟩
      · rw [HADD.out.1, HADD.out.2, HRES.out.1, HRES.out.2, hg]
      · exact hfin _ _ _
    case' neg =>
      have hgb : (p.g == q.g) = false := beq_eq_false_iff_ne.2 hg
      have KC := Lib.hid (Cmp_c A2 A3 c2 c3 X q.n _ wc (by omega) (by omega) HX2.out HY2.out)
      go_wp2_with fail
      refine KC.out.mono ?_
      rintro e w6 ⟨rfl, nn, rfl⟩
      clear p0 p1 p2 p3 p4 p5 p6 q0 q1 q2 q3 q4 q5 q6
      by_cases hl : X < q.n
      case' pos =>
        have hcn := cmp_neg hl
        have HRES := Lib.hid (hi_lt hg X HUP.out hl)
        have HNW : Hid (nd W (q.n - X) ≤ 10000) := Lib.hid (Nat.le_trans (nd_mono W2 (Nat.sub_le _ _)) (by omega))
        generalize cmpN X q.n = cc at *
        go_wp2_with fail
        have T3 : TD w p.t q.t (wc.drewN nn).drew := (T2.drawn nn).drew.td
        have KO := Lib.hid (Sub_c A3 A2 c3 c2 q.n X _ (wc.drewN nn).drew (Nat.le_of_lt hl) (by omega) (HY2.out.drewN (nn + 1)) (HX2.out.drewN (nn + 1)) (Nat.le_refl _))
        have M0 : ∀ W, TD w p.t q.t W → W.cell? ⟨w.heap.size, 0, none⟩ = some (.bool p.g) := fun W h => h.1.2.1.facts.2.1
        have M3 : ∀ W, TD w p.t q.t W → W.cell? ⟨w.heap.size + 1, 0, none⟩ = some (.bool q.g) := fun W h => h.1.2.2.facts.2.1
        have M5 : ∀ W, TD w p.t q.t W → W.cell? ⟨w.heap.size + 1, 2, none⟩ = some (.int .i64 q.x) := fun W h => h.1.2.2.facts.2.2.2.1
        have M6 := fun W (h : TD w p.t q.t W) => h.cells.2.1
        have M7 := fun W (h : TD w p.t q.t W) => h.cells.2.2.1
        have M8 := fun W (h : TD w p.t q.t W) => h.cells.2.2.2.1
        have M9 := fun W (h : TD w p.t q.t W) => h.cells.2.2.2.2.1
        have M10 := fun W (h : TD w p.t q.t W) => h.cells.2.2.2.2.2.1
        have M11 := fun W (h : TD w p.t q.t W) => h.cells.2.2.2.2.2.2
        go_region_held3 (TD w p.t q.t) (first | assumption | exact TD.step (by assumption) (by assumption) | exact TD.put (by assumption) _ _ _ | exact TD.drew (by assumption) | exact TD.drawn (by assumption) _)
          (first
            | (go_at_call 66; (refine KO.out.mono ?_); rintro e wd hnp4; obtain ⟨A4, c4, rfl, hc4, hr4, hb10⟩ := hnp4.get)
            | (go_at_call 63; (refine (KF.out _ _ _ _ _ HNW.out (by assumption) (HTB.out _ (by assumption))).mono ?_); rintro e we ⟨rfl, hb11⟩; have HSV := Lib.hid (TD.step (a := p.t) (b := q.t) (w := w) (by assumption) hb11); unfold Dy.v))
        obtain ⟨r0, r1, r2, r3, r4, r5, r6⟩ := HSV.out.cells
        have hfin := below_put HSV.out.1.1 (show w.heap.size ≤ w.heap.size + 2 by omega)
        clear T3 M0 M3 M5 M6 M7 M8 M9 M10 M11
        go_wp2_with fail
        refine bodyPost_ret (v := .tuple #[(mkD q.g (q.n - X) q.x).v, .int .i64 (mkE (q.n - X) q.x)]) (by simp [results, Tryz.results38, go_sem, r0, r1, r2, r3, Dy.v]) rfl ⟨?_, ?_⟩
        · rw [HADD.out.1, HADD.out.2, HRES.out.1, HRES.out.2]
        · exact hfin _ _ _
      case' neg =>
        have hcn := cmp_pos (Nat.le_of_not_lt hl)
        have HRES := Lib.hid (hi_ge hg X HUP.out hl)
        have HNW : Hid (nd W (X - q.n) ≤ 10000) := Lib.hid (Nat.le_trans (nd_mono W2 (Nat.sub_le _ _)) (by omega))
        generalize cmpN X q.n = cc at *
        go_wp2_with fail
        have T3 : TD w p.t q.t (wc.drewN nn).drew := (T2.drawn nn).drew.td
        have KO := Lib.hid (Sub_c A2 A3 c2 c3 X q.n _ (wc.drewN nn).drew (Nat.le_of_not_lt hl) (by omega) (HX2.out.drewN (nn + 1)) (HY2.out.drewN (nn + 1)) (Nat.le_refl _))
        have M0 : ∀ W, TD w p.t q.t W → W.cell? ⟨w.heap.size, 0, none⟩ = some (.bool p.g) := fun W h => h.1.2.1.facts.2.1
        have M3 : ∀ W, TD w p.t q.t W → W.cell? ⟨w.heap.size + 1, 0, none⟩ = some (.bool q.g) := fun W h => h.1.2.2.facts.2.1
        have M5 : ∀ W, TD w p.t q.t W → W.cell? ⟨w.heap.size + 1, 2, none⟩ = some (.int .i64 q.x) := fun W h => h.1.2.2.facts.2.2.2.1
        have M6 := fun W (h : TD w p.t q.t W) => h.cells.2.1
        have M7 := fun W (h : TD w p.t q.t W) => h.cells.2.2.1
        have M8 := fun W (h : TD w p.t q.t W) => h.cells.2.2.2.1
        have M9 := fun W (h : TD w p.t q.t W) => h.cells.2.2.2.2.1
        have M10 := fun W (h : TD w p.t q.t W) => h.cells.2.2.2.2.2.1
        have M11 := fun W (h : TD w p.t q.t W) => h.cells.2.2.2.2.2.2
        go_region_held3 (TD w p.t q.t) (first | assumption | exact TD.step (by assumption) (by assumption) | exact TD.put (by assumption) _ _ _ | exact TD.drew (by assumption) | exact TD.drawn (by assumption) _)
          (first
            | (go_at_call 66; (refine KO.out.mono ?_); rintro e wd hnp4; obtain ⟨A4, c4, rfl, hc4, hr4, hb10⟩ := hnp4.get)
            | (go_at_call 63; (refine (KF.out _ _ _ _ _ HNW.out (by assumption) (HTB.out _ (by assumption))).mono ?_); rintro e we ⟨rfl, hb11⟩; have HSV := Lib.hid (TD.step (a := p.t) (b := q.t) (w := w) (by assumption) hb11); unfold Dy.v))
        obtain ⟨r0, r1, r2, r3, r4, r5, r6⟩ := HSV.out.cells
        have hfin := below_put HSV.out.1.1 (show w.heap.size ≤ w.heap.size + 2 by omega)
        clear T3 M0 M3 M5 M6 M7 M8 M9 M10 M11
        go_wp2_with fail
        refine bodyPost_ret (v := .tuple #[(mkD p.g (X - q.n) q.x).v, .int .i64 (mkE (X - q.n) q.x)]) (by simp [results, Tryz.results38, go_sem, r0, r1, r2, r3, Dy.v]) rfl ⟨?_, ?_⟩
        · rw [HADD.out.1, HADD.out.2, HRES.out.1, HRES.out.2]
        · exact hfin _ _ _
end Go.Proofs.YtamcnnocjelcjaaGreatDoor
namespace Go.Proofs.YtamcnnocjelcjaaGreatDoor
open Go Go.RowKit Nt
def AddPost (a b : Dy) (w : World) (e : Ending) (w' : World) : Prop := e = .returned (.tuple #[(addD a b).v, .int .i64 (addE a b)]) ∧ Below w.heap.size w w'
theorem DAdd_c (a b : Dy) (w : World) (ha : a.Ok) (hb : b.Ok) (hG : Globs glT w) :
    Calls Tryz.prog 38 #[.agg #[.bool a.g, .string (natS a.n), .int .i64 a.x], .agg #[.bool b.g, .string (natS b.n), .int .i64 b.x]] w (AddPost a b w) := by
  unfold AddPost
  rcases ha with rfl | ha
  · rw [(add_zl (a := Dy.zero) (b := b) rfl).1, (add_zl (a := Dy.zero) (b := b) rfl).2]
    show Calls _ _ #[.agg #[.bool false, .string (natS 0), .int .i64 0], _] _ _
    rw [natS_zero]; exact DAdd_zl b w hb
  · rcases hb with rfl | hb
    · rw [(add_zr (a := a) (b := Dy.zero) (odd_ne ha.2.1) rfl).1, (add_zr (a := a) (b := Dy.zero) (odd_ne ha.2.1) rfl).2]
      show Calls _ _ #[_, .agg #[.bool false, .string (natS 0), .int .i64 0]] _ _
      rw [natS_zero]; exact DAdd_zr a w ha
    · exact DAdd_num a b w ha hb hG
def negD (d : Dy) : Dy := if d.n = 0 then d else ⟨!d.g, d.n, d.x⟩
theorem negD_zero : negD Dy.zero = Dy.zero := by unfold negD; exact if_pos rfl
theorem negD_num {d : Dy} (h : d.n ≠ 0) : negD d = ⟨!d.g, d.n, d.x⟩ := by unfold negD; exact if_neg h
theorem negD_Ok {d : Dy} (h : d.Ok) : (negD d).Ok := by
  rcases h with rfl | h
  · rw [negD_zero]; exact Or.inl rfl
  · rw [negD_num (odd_ne h.2.1)]; exact Or.inr h
theorem DNeg_c (d : Dy) (w : World) (h : d.Ok) : Calls Tryz.prog 22 #[.agg #[.bool d.g, .string (natS d.n), .int .i64 d.x]] w fun e w' => e = .returned ((negD d).v) ∧ Below w.heap.size w w' := by
  rcases h with rfl | h
  · rw [negD_zero, Dy.zero_v]
    show Calls _ _ #[.agg #[.bool false, .string (natS 0), .int .i64 0]] _ _
    rw [natS_zero]; exact DNeg_zero w
  · rw [negD_num (odd_ne h.2.1)]
    exact DNeg_num d.g d.n d.x w h.1 h.2.1 h.2.2.1 h.2.2.2
end Go.Proofs.YtamcnnocjelcjaaGreatDoor
namespace Go.Proofs.YtamcnnocjelcjaaGreatDoor
open Go Go.RowKit Nt
set_option maxRecDepth 100000 in
set_option maxHeartbeats 2000000 in
theorem DSub_c (a b : Dy) (w : World) (ha : a.Ok) (hb : b.Ok) (hG : Globs glT w) :
    Calls Tryz.prog 71 #[.agg #[.bool a.g, .string (natS a.n), .int .i64 a.x], .agg #[.bool b.g, .string (natS b.n), .int .i64 b.x]] w (AddPost a (negD b) w) := by
  have KA := Lib.hid (fun W T A hA => all_ok2 a b ha hb W T A hA)
  have T0 := TC.start w a.t b.t
  have KN := Lib.hid (fun w => DNeg_c b w hb)
  have KD := Lib.hid (fun w hG => DAdd_c a (negD b) w ha (negD_Ok hb) hG)
  have HG := Lib.hid (fun W (h : TD w a.t b.t W) => hG.below h.1.1 (Nat.le_refl _))
  clear hG
  clear ha hb
  unfold AddPost at KD ⊢
  generalize addD a (negD b) = D at *
  generalize addE a (negD b) = E at *
  generalize negD b = c at *
  unfold Dy.t at T0
  go_enter Tryz.func71, Tryz.ntmps71
  go_wp2_with fail
  refine (KA.out _ _ _ (by simp)).mono ?_
  rintro e w1 ⟨rfl, hb⟩
  replace T0 := (T0.more _).step hb
  clear hb
  have T1 : TD w a.t b.t w1 := T0.td
  clear T0
  go_wp2_with fail
  have M0 : ∀ W, TD w a.t b.t W → W.cell? ⟨w.heap.size, 0, none⟩ = some (.bool a.g) := fun W h => h.1.2.1.facts.2.1
  have M1 : ∀ W, TD w a.t b.t W → W.cell? ⟨w.heap.size, 1, none⟩ = some (.string (natS a.n)) := fun W h => h.1.2.1.facts.2.2.1
  have M2 : ∀ W, TD w a.t b.t W → W.cell? ⟨w.heap.size, 2, none⟩ = some (.int .i64 a.x) := fun W h => h.1.2.1.facts.2.2.2.1
  have M3 : ∀ W, TD w a.t b.t W → W.cell? ⟨w.heap.size + 1, 0, none⟩ = some (.bool b.g) := fun W h => h.1.2.2.facts.2.1
  have M4 : ∀ W, TD w a.t b.t W → W.cell? ⟨w.heap.size + 1, 1, none⟩ = some (.string (natS b.n)) := fun W h => h.1.2.2.facts.2.2.1
  have M5 : ∀ W, TD w a.t b.t W → W.cell? ⟨w.heap.size + 1, 2, none⟩ = some (.int .i64 b.x) := fun W h => h.1.2.2.facts.2.2.2.1
  have M6 := fun W (h : TD w a.t b.t W) => h.cells.2.1
  have M7 := fun W (h : TD w a.t b.t W) => h.cells.2.2.1
  have M8 := fun W (h : TD w a.t b.t W) => h.cells.2.2.2.1
  have M9 := fun W (h : TD w a.t b.t W) => h.cells.2.2.2.2.1
  have M10 := fun W (h : TD w a.t b.t W) => h.cells.2.2.2.2.2.1
  have M11 := fun W (h : TD w a.t b.t W) => h.cells.2.2.2.2.2.2
  go_region_held3 (TD w a.t b.t) (first | assumption | exact TD.step (by assumption) (by assumption) | exact TD.put (by assumption) _ _ _ | exact TD.drew (by assumption) | exact TD.drawn (by assumption) _)
    (first
      | (go_at_call 22; (refine (KN.out _).mono ?_); rintro e wd ⟨rfl, hb10⟩; unfold Dy.v)
      | (go_at_call 38; (refine (KD.out _ (HG.out _ (by assumption))).mono ?_); rintro e we ⟨rfl, hb11⟩; have HSV := Lib.hid (TD.step (a := a.t) (b := b.t) (w := w) (by assumption) hb11); unfold Dy.v))
  obtain ⟨r0, r1, r2, r3, r4, r5, r6⟩ := HSV.out.cells
  have hfin := below_put HSV.out.1.1 (show w.heap.size ≤ w.heap.size + 2 by omega)
  clear M0 M1 M2 M3 M4 M5 M6 M7 M8 M9 M10 M11
  go_wp2_with fail
  refine bodyPost_ret (v := .tuple #[D.v, .int .i64 E]) (by simp [results, Tryz.results71, go_sem, r0, r1, r2, r3, Dy.v]) rfl ⟨rfl, ?_⟩
  exact hfin _ _ _
end Go.Proofs.YtamcnnocjelcjaaGreatDoor
namespace Go.Proofs.YtamcnnocjelcjaaGreatDoor
open Go Go.RowKit Nt
end Go.Proofs.YtamcnnocjelcjaaGreatDoor
namespace Go.Proofs.YtamcnnocjelcjaaGreatDoor
open Go Go.RowKit Nt
def OC (w : World) (a : Dt) (W : World) : Prop := OB w a W ∧ Box3 W (w.heap.size + 1) (.bool false) (.string ⟨#[]⟩) (.int .i64 0)
theorem OC.start (w : World) (a : Dt) : OC w a ((w.alloc (.cells #[.bool a.g, .string a.s, .int .i64 a.x] 24)).alloc (.cells #[.bool false, .string ⟨#[]⟩, .int .i64 0] 24)) := by
  refine ⟨(OB.start w a).more _, ?_⟩
  have := Box3.new (w.alloc (.cells #[.bool a.g, .string a.s, .int .i64 a.x] 24)) (.bool false) (.string ⟨#[]⟩) (.int .i64 0)
  simpa using this
theorem OC.step {w : World} {a : Dt} {W W' : World} (h : OC w a W) (hb : Below W.heap.size W W') : OC w a W' := ⟨h.1.step hb, h.2.step hb⟩
theorem OC.more {w : World} {a : Dt} {W : World} (h : OC w a W) (o : Obj) : OC w a (W.alloc o) := h.step ((Below.refl _ _).alloc (Nat.le_refl _) _)
theorem OC.fin {w : World} {a : Dt} {W : World} (h : OC w a W) (x y z : Value) : Below w.heap.size w (((W.setCell ⟨w.heap.size + 1, 0, none⟩ x).setCell ⟨w.heap.size + 1, 1, none⟩ y).setCell ⟨w.heap.size + 1, 2, none⟩ z) := below_put h.1.1 (by omega) x y z
end Go.Proofs.YtamcnnocjelcjaaGreatDoor
set_option linter.unusedSectionVars false
namespace Go.Proofs.YtamcnnocjelcjaaGreatDoor
open Go Go.RowKit Nt
theorem natS_inj {m n : Nat} : natS m = natS n ↔ m = n := by
  constructor
  · intro h
    have : (natS m).toList = (natS n).toList := by rw [h]
    exact (natS_list_eq m n).1 this
  · rintro rfl; rfl
theorem Dy.ext_iff' {a b : Dy} : (a.g = b.g ∧ natS a.n = natS b.n ∧ a.x = b.x) ↔ a = b := by
  obtain ⟨g, n, x⟩ := a
  obtain ⟨g', n', x'⟩ := b
  simp [natS_inj]
theorem str_inj {s s' : ByteArray} (h : s.toList = s'.toList) : s = s' := by
  rw [ByteArray.toList_eq, ByteArray.toList_eq] at h
  obtain ⟨a⟩ := s
  obtain ⟨b⟩ := s'
  have : a = b := Array.ext' h
  rw [this]
theorem neDy_run {g g' : Bool} {s s' : ByteArray} {x x' : Int} {c : Bool} (h : c = true ↔ (g = g' ∧ s = s' ∧ x = x')) (p q : Operand) (w : World) : (do eqGuard .neq 24 p q (.agg #[.bool g, .string s, .int .i64 x]) (.agg #[.bool g', .string s', .int .i64 x']); binOp .neq 24 (.agg #[.bool g, .string s, .int .i64 x]) (.agg #[.bool g', .string s', .int .i64 x'])).run Tryz.prog w = .ok (.bool (!c)) w := by
  go_simp
  by_cases h1 : g = g'
  · by_cases h2 : s.toList = s'.toList
    · by_cases h3 : x = x'
      · rw [if_pos h1, if_pos h2, if_pos h3, h.2 ⟨h1, str_inj h2, h3⟩]; rfl
      · rw [if_pos h1, if_pos h2, if_neg h3, show c = false by cases c <;> first | rfl | exact absurd (h.1 rfl).2.2 h3]; rfl
    · rw [if_pos h1, if_neg h2, show c = false by cases c <;> first | rfl | exact absurd (congrArg _ (h.1 rfl).2.1) h2]; rfl
  · rw [if_neg h1, show c = false by cases c <;> first | rfl | exact absurd (h.1 rfl).1 h1]; rfl
section
variable [Env]
theorem optD_neq {A B : AV} {g g' : Bool} {s s' : ByteArray} {x x' : Int} {c : Bool} (ha : gval A = .agg #[.bool g, .string s, .int .i64 x]) (hb : gval B = .agg #[.bool g', .string s', .int .i64 x']) (h : c = true ↔ (g = g' ∧ s = s' ∧ x = x')) : OpT Tryz.prog [0, 12, 24] [A, B] (.lit (.bool (!c))) :=
  opt_bin (op := .neq) rfl fun p q w => by rw [ha, hb]; exact neDy_run h p q w
theorem optD_neq_f {A B : AV} {a b : Dy} (ha : gval A = a.v) (hb : gval B = b.v) (h : a = b) : OpT Tryz.prog [0, 12, 24] [A, B] (.lit (.bool false)) := optD_neq (c := true) ha hb ⟨fun _ => Dy.ext_iff'.2 h, fun _ => rfl⟩
end
def Dy.one : Dy := ⟨false, 1, 0⟩
end Go.Proofs.YtamcnnocjelcjaaGreatDoor
namespace Go.Proofs.YtamcnnocjelcjaaGreatDoor
open Go Go.RowKit Nt
end Go.Proofs.YtamcnnocjelcjaaGreatDoor
namespace Go.Proofs.YtamcnnocjelcjaaGreatDoor
open Go Go.RowKit Nt
@[irreducible] def EE : Nat := 4194304
theorem EE_eq : EE = 4194304 := by unfold EE; rfl
def iv (d : Dy) : Int := sgnd d.g (d.n * 2 ^ (d.x + EE).toNat)
theorem iv_zero : iv Dy.zero = 0 := by
  unfold iv Dy.zero sgnd
  simp
theorem sgnd_abs (g : Bool) (m : Nat) : (sgnd g m).natAbs = m := by unfold sgnd; cases g <;> simp
theorem sgnd_neg {g : Bool} {m : Nat} (h : m ≠ 0) : decide (sgnd g m < 0) = g := by unfold sgnd; cases g <;> simp <;> omega
def mkZ (z : Int) (k : Nat) : Dy := mkD (decide (z < 0)) z.natAbs (-(k : Int))
def mkZE (z : Int) (k : Nat) : Int := mkE z.natAbs (-(k : Int))
theorem mk_toZ (g : Bool) (n : Nat) (x : Int) (k : Nat) (h : -(k : Int) ≤ x) : mkD g n x = mkZ (sgnd g (n * 2 ^ (x + k).toNat)) k ∧ mkE n x = mkZE (sgnd g (n * 2 ^ (x + k).toNat)) k := by
  obtain ⟨j, hj⟩ : ∃ j, j = (x + k).toNat := ⟨_, rfl⟩
  rw [← hj]
  have e : -(k : Int) = x - (j : Int) := by omega
  have hs := mkD_shift g n j x
  unfold mkZ mkZE
  rw [sgnd_abs, e, hs.2]
  by_cases h0 : n = 0
  · subst h0; rw [Nat.zero_mul, mkD_zero, mkD_zero]; exact ⟨rfl, rfl⟩
  · have h1 : n * 2 ^ j ≠ 0 := Nat.mul_ne_zero h0 (Nat.pos_iff_ne_zero.1 (Nat.two_pow_pos j))
    rw [sgnd_neg h1, hs.1]; exact ⟨rfl, rfl⟩
theorem iv_mk {d : Dy} (h : d.Ok) : mkZ (iv d) EE = d ∧ mkZE (iv d) EE = 0 := by
  rcases h with rfl | h
  · rw [iv_zero]; unfold mkZ mkZE; exact ⟨mkD_zero _ _, mkE_zero _⟩
  · have h1 := mkD_self h
    have h2 := mk_toZ d.g d.n d.x EE (by rw [EE_eq]; have := h.2.2; omega)
    unfold iv
    rw [← h2.1, ← h2.2]; exact h1
theorem mk_iv {z : Int} (h : mkZE z EE = 0) : iv (mkZ z EE) = z := by
  have hk : mkOk3 z.natAbs (-(EE : Int)) := by
    by_cases c : mkOk3 z.natAbs (-(EE : Int))
    · exact c
    · unfold mkZE at h; rw [mkE_no c] at h; exact absurd h (by decide)
  unfold mkZ
  by_cases h0 : z.natAbs = 0
  · have : z = 0 := by omega
    subst this
    rw [show (0 : Int).natAbs = 0 from rfl, mkD_zero, iv_zero]
  · rw [mkD_ok h0 hk]
    unfold iv
    show sgnd (decide (z < 0)) (odN z.natAbs * 2 ^ (-(EE : Int) + (lowN z.natAbs : Int) + (EE : Int)).toNat) = z
    rw [show (-(EE : Int) + (lowN z.natAbs : Int) + (EE : Int)).toNat = lowN z.natAbs by omega, ← (odN_spec h0).2]
    unfold sgnd
    by_cases hz : z < 0
    · rw [decide_eq_true hz, if_pos rfl]; omega
    · rw [decide_eq_false hz, if_neg (by decide)]; omega
theorem iv_neg (d : Dy) : iv (negD d) = - iv d := by
  unfold negD
  by_cases h : d.n = 0
  · rw [if_pos h]; unfold iv sgnd; rw [h, Nat.zero_mul]; cases d.g <;> rfl
  · rw [if_neg h]; unfold iv sgnd; cases d.g <;> simp
theorem hi_iv {p q : Dy} (hp : p.Num) (hq : q.Num) (hle : q.x ≤ p.x) : hiD p q = mkZ (iv p + iv q) EE ∧ hiE p q = mkZE (iv p + iv q) EE := by
  obtain ⟨j, hj⟩ : ∃ j, j = (q.x + EE).toNat := ⟨_, rfl⟩
  have hqx := hq.2.2
  have hpx := hp.2.2
  have hjq : q.x = (j : Int) - (EE : Int) := by rw [EE_eq] at *; omega
  obtain ⟨i, hi⟩ : ∃ i, i = (p.x - q.x).toNat := ⟨_, rfl⟩
  have hpe : (p.x + EE).toNat = i + j := by omega
  have hup : upN p q = p.n * 2 ^ i := by rw [upN_eq, ← hi]
  have e1 := sum_mk p.g q.g (upN p q) q.n q.x
  have e2 := sum_abs p.g q.g (upN p q) q.n
  have h := mk_toZ (decide (sgnd p.g (upN p q) + sgnd q.g q.n < 0)) (sgnd p.g (upN p q) + sgnd q.g q.n).natAbs q.x EE (by rw [EE_eq]; omega)
  rw [← hj] at h
  rw [hiD_eq, hiE_eq, ← e1, ← e2, h.1, h.2]
  have hmain : sgnd (decide (sgnd p.g (upN p q) + sgnd q.g q.n < 0)) ((sgnd p.g (upN p q) + sgnd q.g q.n).natAbs * 2 ^ j) = iv p + iv q := by
    have hs : ∀ z : Int, sgnd (decide (z < 0)) (z.natAbs * 2 ^ j) = z * 2 ^ j := fun z => by
      unfold sgnd
      rw [Int.natCast_mul, Int.natCast_pow]
      by_cases hz : z < 0
      · rw [decide_eq_true hz, if_pos rfl, ← Int.neg_mul, show -((z.natAbs : Nat) : Int) = z by omega]; rfl
      · rw [decide_eq_false hz, if_neg (by decide), show ((z.natAbs : Nat) : Int) = z by omega]; rfl
    rw [hs, Int.add_mul]
    unfold iv
    rw [hpe, ← hj, hup]
    have hg : ∀ (g : Bool) (m : Nat), sgnd g m * 2 ^ j = sgnd g (m * 2 ^ j) := fun g m => by
      unfold sgnd
      rw [Int.natCast_mul, Int.natCast_pow]
      cases g
      · rfl
      · rw [if_pos rfl, if_pos rfl, Int.neg_mul]; rfl
    rw [hg, hg, Nat.mul_assoc, ← Nat.pow_add]
  rw [hmain]; exact ⟨rfl, rfl⟩
theorem add_iv {a b : Dy} (ha : a.Ok) (hb : b.Ok) : addD a b = mkZ (iv a + iv b) EE ∧ addE a b = mkZE (iv a + iv b) EE := by
  rcases ha with rfl | ha
  · have h := iv_mk hb
    rw [(add_zl (a := Dy.zero) (b := b) rfl).1, (add_zl (a := Dy.zero) (b := b) rfl).2, iv_zero, Int.zero_add]
    exact ⟨h.1.symm, h.2.symm⟩
  · rcases hb with rfl | hb
    · have h := iv_mk (Or.inr ha)
      rw [(add_zr (a := a) (b := Dy.zero) (odd_ne ha.2.1) rfl).1, (add_zr (a := a) (b := Dy.zero) (odd_ne ha.2.1) rfl).2, iv_zero, Int.add_zero]
      exact ⟨h.1.symm, h.2.symm⟩
    · by_cases h : a.x < b.x
      · rw [(add_lt (odd_ne ha.2.1) (odd_ne hb.2.1) h).1, (add_lt (odd_ne ha.2.1) (odd_ne hb.2.1) h).2, Int.add_comm]
        exact hi_iv hb ha (by omega)
      · rw [(add_ge (odd_ne ha.2.1) (odd_ne hb.2.1) h).1, (add_ge (odd_ne ha.2.1) (odd_ne hb.2.1) h).2]
        exact hi_iv ha hb (by omega)
theorem sgnd_f (m : Nat) : sgnd false m = (m : Int) := rfl
theorem sgnd_t (m : Nat) : sgnd true m = -(m : Int) := rfl
def sgI (z : Int) : Int := if z < 0 then -1 else if 0 < z then 1 else 0
theorem iv_pos {d : Dy} (h : d.Num) : 0 < d.n * 2 ^ (d.x + (EE : Int)).toNat := Nat.mul_pos (Nat.pos_of_ne_zero (odd_ne h.2.1)) (Nat.two_pow_pos _)
theorem sgD_iv {d : Dy} (h : d.Ok) : sgD d = sgI (iv d) := by
  rcases h with rfl | h
  · rw [sgD_zero, iv_zero]; rfl
  · have hp := iv_pos h
    rw [sgD_num (odd_ne h.2.1)]
    unfold iv
    generalize d.n * 2 ^ (d.x + (EE : Int)).toNat = m at *
    unfold sgI
    cases d.g
    · rw [sgn_f, sgnd_f, if_neg (by omega), if_pos (by omega)]
    · rw [sgn_t, sgnd_t, if_pos (by omega)]
theorem cmp_mul (a b c : Nat) (hc : 0 < c) : cmpN (a * c) (b * c) = cmpN a b := by
  rcases Nat.lt_trichotomy a b with h | h | h
  · rw [cmpN_lt h, cmpN_lt (Nat.mul_lt_mul_of_pos_right h hc)]
  · rw [h, cmpN_eq, cmpN_eq]
  · rw [cmpN_gt h, cmpN_gt (Nat.mul_lt_mul_of_pos_right h hc)]
theorem mag_iv {a b : Dy} (ha : a.Num) (hb : b.Num) : magC a b = cmpN (a.n * 2 ^ (a.x + (EE : Int)).toNat) (b.n * 2 ^ (b.x + (EE : Int)).toNat) := by
  have hax := ha.2.2
  have hbx := hb.2.2
  obtain ⟨i, hi⟩ : ∃ i, i = (a.x + (EE : Int)).toNat := ⟨_, rfl⟩
  obtain ⟨j, hj⟩ : ∃ j, j = (b.x + (EE : Int)).toNat := ⟨_, rfl⟩
  have hie : a.x = (i : Int) - (EE : Int) := by rw [EE_eq] at *; omega
  have hje : b.x = (j : Int) - (EE : Int) := by rw [EE_eq] at *; omega
  have na := nd_mul_pow (j := i) (odd_ne ha.2.1)
  have nb := nd_mul_pow (j := j) (odd_ne hb.2.1)
  rw [← hi, ← hj]
  rcases Int.lt_trichotomy (topD a) (topD b) with h | h | h
  · rw [magC_lt h]
    rw [topD_eq, topD_eq] at h
    exact (cmpN_lt (lt_of_nd (b := 2) (by omega) (by omega))).symm
  · rw [magC_eq h, upN_eq, upN_eq]
    by_cases hx : j ≤ i
    · rw [show (a.x - b.x).toNat = i - j by omega, show (b.x - a.x).toNat = 0 by omega, Nat.pow_zero, Nat.mul_one, ← cmp_mul _ _ (2 ^ j) (Nat.two_pow_pos j), Nat.mul_assoc, ← Nat.pow_add, show i - j + j = i by omega]
    · rw [show (a.x - b.x).toNat = 0 by omega, show (b.x - a.x).toNat = j - i by omega, Nat.pow_zero, Nat.mul_one, ← cmp_mul _ _ (2 ^ i) (Nat.two_pow_pos i), Nat.mul_assoc, ← Nat.pow_add, show j - i + i = j by omega]
  · rw [magC_gt h]
    rw [topD_eq, topD_eq] at h
    exact (cmpN_gt (lt_of_nd (b := 2) (by omega) (by omega))).symm
theorem cmp_iv {a b : Dy} (ha : a.Ok) (hb : b.Ok) : cmpD a b = sgI (iv a - iv b) := by
  have sa := sgD_iv ha
  have sb := sgD_iv hb
  rcases Int.lt_trichotomy (sgD a) (sgD b) with h | h | h
  · rw [cmpD_lt h]
    rw [sa, sb] at h
    unfold sgI at h ⊢
    rw [if_pos (by split at h <;> split at h <;> (try split at h) <;> (try split at h) <;> omega)]
  · by_cases h0 : sgD a = 0
    · rw [cmpD_zero h h0, Dy.zero_of ha h0, Dy.zero_of hb (h ▸ h0), iv_zero]; rfl
    · rw [cmpD_eq h h0]
      have na := Dy.num_of ha h0
      have nb := Dy.num_of hb (h ▸ h0)
      rw [mag_iv na nb, sgD_num (odd_ne na.2.1)]
      have hg : sgnI a.g = sgnI b.g := by rw [← sgD_num (odd_ne na.2.1), ← sgD_num (odd_ne nb.2.1)]; exact h
      have hg2 : a.g = b.g := by
        revert hg
        cases a.g <;> cases b.g <;> simp [sgn_t, sgn_f]
      unfold iv
      rw [← hg2]
      generalize a.n * 2 ^ (a.x + (EE : Int)).toNat = m
      generalize b.n * 2 ^ (b.x + (EE : Int)).toNat = n
      unfold sgI
      rcases Nat.lt_trichotomy m n with c | c | c
      · rw [cmpN_lt c]
        cases a.g
        · rw [sgn_f, sgnd_f, sgnd_f, if_pos (by omega)]; rfl
        · rw [sgn_t, sgnd_t, sgnd_t, if_neg (by omega), if_pos (by omega)]; rfl
      · rw [c, cmpN_eq, Int.mul_zero, if_neg (by omega), if_neg (by omega)]
      · rw [cmpN_gt c]
        cases a.g
        · rw [sgn_f, sgnd_f, sgnd_f, if_neg (by omega), if_pos (by omega)]; rfl
        · rw [sgn_t, sgnd_t, sgnd_t, if_pos (by omega)]; rfl
  · rw [cmpD_gt h]
    rw [sa, sb] at h
    unfold sgI at h ⊢
    rw [if_neg (by split at h <;> split at h <;> (try split at h) <;> (try split at h) <;> omega), if_pos (by split at h <;> split at h <;> (try split at h) <;> (try split at h) <;> omega)]
end Go.Proofs.YtamcnnocjelcjaaGreatDoor
