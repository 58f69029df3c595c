/- Texts put together: D1 D2 D4 D8 N38 DM D10 D12 D15 D16 D17 D18 D19 Fft B1t B2t Mtt B3t Ev1 Ev2. -/
import Derived.Test.YtmjjodficjjehabGreatDoorU1
import Derived.BigQuiet
import Derived.Deep.RegionLaw
import Ieee.Arith
import Derived.Test.YtmjjodficjjehabGreatDoorProg
import Derived.WalkKit
import Derived.WalkLawsBesides
import Derived.WalkSpells
import Derived.Outline
import Derived.Lib.Hide
import Derived.Deep.Light
import Derived.Laws.BitsAllLaws
import Derived.Laws.FloatArith
import Derived.Deep.QuietTactic
import Derived.Lib.TrailingZeros
import Derived.Shelf.Strconv.Itoa0
import Derived.Laws.ShiftsVarLaws
import Derived.WalkSmall
import Derived.Deep.Quiet
import Derived.Deep.MidRow
import Derived.Below
import Derived.Scope
import Derived.Laws.NewBlocks
set_option linter.unusedSimpArgs false
set_option linter.unusedVariables false
namespace Go.Proofs.YtmjjodficjjehabGreatDoor
open Go Go.RowKit Nt
def DOk (g : Bool) (s : ByteArray) (x : Int) : Prop := (s = ⟨#[]⟩ ∧ g = false ∧ x = 0) ∨ ∃ n, fits n ∧ n % 2 = 1 ∧ s = natS n ∧ -1048576 ≤ x ∧ x ≤ 1048576
theorem dFull {s : ByteArray} (h : 0 < s.size) : ¬ s.toList = [] := fun c => by
  rw [ba_toList] at c
  have : s.data.toList.length = 0 := by rw [c]; rfl
  rw [Array.length_toList] at this
  have h2 : s.size = s.data.size := rfl
  omega
theorem dFull2 {s : ByteArray} (h : 0 < s.size) : s.toList.isEmpty = false := by
  have := dFull h
  cases h2 : s.toList with
  | nil => exact absurd h2 this
  | cons x l => rfl
theorem ba_nil {s : ByteArray} (h : s.size = 0) : s = ⟨#[]⟩ := by
  obtain ⟨d⟩ := s
  have : d = #[] := Array.eq_empty_of_size_eq_zero h
  rw [this]
theorem last_odd (n : Nat) (h : 0 < (natS n).size) : ((natS n)[(natS n).size - 1]'(by omega)).toNat % 2 = n % 2 := by
  have e := natS_get n ((natS n).size - 1) (by omega)
  rw [e, natS_size, show nd 256 n - 1 - (nd 256 n - 1) = 0 by omega, dgt_def, Nat.pow_zero, Nat.div_one]
  omega
theorem odd_ne {n : Nat} (h : n % 2 = 1) : n ≠ 0 := fun c => by rw [c] at h; omega
theorem odd_size {n : Nat} (h : n % 2 = 1) : 0 < (natS n).size := by
  rw [natS_size]
  rcases Nat.eq_zero_or_pos (nd 256 n) with c | c
  · exact absurd ((nd_eq_zero (by omega)).1 c) (odd_ne h)
  · exact c
theorem dbad {g : Bool} {s : ByteArray} {x : Int} (h : ¬ DOk g s x) :
    (s = ⟨#[]⟩ ∧ (g = true ∨ x ≠ 0)) ∨ ∃ hs : 0 < s.size, (s[s.size - 1]'(by omega)).toNat % 2 = 0 ∨ ((s[s.size - 1]'(by omega)).toNat % 2 = 1 ∧ (¬ May s ∨ (May s ∧ (x < -1048576 ∨ 1048576 < x)))) := by
  by_cases h0 : s.size = 0
  · refine Or.inl ⟨ba_nil h0, ?_⟩
    cases g with
    | true => exact Or.inl rfl
    | false => exact Or.inr fun c => h (Or.inl ⟨ba_nil h0, rfl, c⟩)
  · refine Or.inr ⟨by omega, ?_⟩
    by_cases h1 : (s[s.size - 1]'(by omega)).toNat % 2 = 0
    · exact Or.inl h1
    · refine Or.inr ⟨by omega, ?_⟩
      by_cases hm : May s
      · refine Or.inr ⟨hm, ?_⟩
        by_cases h2 : x < -1048576
        · exact Or.inl h2
        · by_cases h3 : 1048576 < x
          · exact Or.inr h3
          · obtain ⟨n, hf, rfl⟩ := may_num hm
            have := last_odd n (by omega)
            exact absurd (Or.inr ⟨n, hf, by omega, rfl, by omega, by omega⟩) h
      · exact Or.inl hm
theorem u8_and0 {q : Nat} (hq : q < 256) (h : q % 2 = 0) : bits BinOp.and IntKind.u8 (q : Int) 1 = 0 := by rw [and_one_u8 q hq, h]; rfl
theorem u8_and1 {q : Nat} (hq : q < 256) (h : q % 2 = 1) : bits BinOp.and IntKind.u8 (q : Int) 1 = 1 := by rw [and_one_u8 q hq, h]; rfl
theorem bcell {W w1 : World} (hb : Below W.heap.size W w1) : (∀ b o, b < W.heap.size → w1.cell? ⟨b, o, none⟩ = W.cell? ⟨b, o, none⟩) ∧ (∀ b o, b < W.heap.size → w1.frozen? ⟨b, o, none⟩ = W.frozen? ⟨b, o, none⟩) :=
  ⟨fun b o h => hb.cell (p := ⟨b, o, none⟩) h, fun b o h => hb.frozen (p := ⟨b, o, none⟩) h⟩
theorem box_below {w w1 : World} {b : Obj} (hb : Below (w.alloc b).heap.size (w.alloc b) w1) : Below w.heap.size w w1 := ((Below.refl _ _).alloc (Nat.le_refl _) _).trans (hb.mono (by simp))
set_option maxRecDepth 100000 in
theorem DCheck_zero (w : World) : Calls Tryz.prog 53 #[.agg #[.bool false, .string ⟨#[]⟩, .int .i64 0]] w fun e w' => e = .returned (.int .i64 0) ∧ Below w.heap.size w w' := by
  go_enter Tryz.func53, Tryz.ntmps53
  go_wp2
  go_ret
  exact ⟨rfl, (Below.refl _ _).alloc (Nat.le_refl _) _⟩
theorem last_and (n : Nat) (ho : n % 2 = 1) (h : nd 256 n - 1 < (natS n).size) : bits BinOp.and IntKind.u8 (((natS n)[nd 256 n - 1]'h).toNat : Int) 1 = 1 := by
  refine u8_and1 ((natS n)[nd 256 n - 1]'h).toNat_lt ?_
  have hp := odd_size ho
  have := last_odd n hp
  simp only [natS_size] at this
  rw [this, ho]
set_option maxRecDepth 100000 in
theorem DCheck_num (g : Bool) (n : Nat) (x : Int) (w : World) (hf : fits n) (ho : n % 2 = 1) (h1 : -1048576 ≤ x) (h2 : x ≤ 1048576) :
    Calls Tryz.prog 53 #[.agg #[.bool g, .string (natS n), .int .i64 x]] w fun e w' => e = .returned (.int .i64 0) ∧ Below w.heap.size w w' := by
  have hm := may1 hf
  have hE := natS_full (odd_ne ho)
  have hE2 := natS_full2 (odd_ne ho)
  have hsz := natS_size n
  have hL : nd 256 n ≤ 16384 := hf
  have hp := odd_size ho
  have hl := last_and n ho (by omega)
  have HO := Lib.hid ho
  clear ho
  go_enter Tryz.func53, Tryz.ntmps53
  go_wp2_with (go_at_call 72; refine (Check_c _ _).mono ?_; rintro e w1 ⟨rfl, hb⟩; obtain ⟨hc, hfz⟩ := bcell hb)
  go_ret
  exact ⟨rfl, box_below hb⟩
set_option maxRecDepth 100000 in
theorem DCheck_bad (g : Bool) (s : ByteArray) (x : Int) (w : World) (hs : s.size ≤ 9223372036854775807) (h : ¬ DOk g s x) :
    Calls Tryz.prog 53 #[.agg #[.bool g, .string s, .int .i64 x]] w fun e w' => e = .returned (.int .i64 2) ∧ Below w.heap.size w w' := by
  rcases dbad h with ⟨rfl, hz⟩ | ⟨hp, hz⟩
  · clear h hs
    have hz2 : g = true ∨ (g = false ∧ (x == 0) = false ∧ ¬ x = 0) := by
      rcases hz with rfl | hz
      · exact Or.inl rfl
      · cases g
        · exact Or.inr ⟨rfl, by simpa using hz, hz⟩
        · exact Or.inl rfl
    clear hz
    rcases hz2 with rfl | ⟨rfl, hx, hx2⟩
    all_goals
      go_enter Tryz.func53, Tryz.ntmps53
      go_wp2
      go_ret
      exact ⟨rfl, (Below.refl _ _).alloc (Nat.le_refl _) _⟩
  · have hE := dFull hp
    have hE2 := dFull2 hp
    clear h
    rcases hz with hz | ⟨hz, hm | ⟨hm, hx⟩⟩
    · have hl : bits BinOp.and IntKind.u8 ((s[s.size - 1]'(by omega)).toNat : Int) 1 = 0 := u8_and0 (s[s.size - 1]'(by omega)).toNat_lt hz
      clear hz
      go_enter Tryz.func53, Tryz.ntmps53
      go_wp2
      go_ret
      exact ⟨rfl, (Below.refl _ _).alloc (Nat.le_refl _) _⟩
    · have hl : bits BinOp.and IntKind.u8 ((s[s.size - 1]'(by omega)).toNat : Int) 1 = 1 := u8_and1 (s[s.size - 1]'(by omega)).toNat_lt hz
      have hm' := may1_no hm
      clear hz hm
      go_enter Tryz.func53, Tryz.ntmps53
      go_wp2_with (go_at_call 72; refine (Check_c _ _).mono ?_; rintro e w1 ⟨rfl, hb⟩; obtain ⟨hc, hfz⟩ := bcell hb)
      go_ret
      exact ⟨rfl, box_below hb⟩
    · have hl : bits BinOp.and IntKind.u8 ((s[s.size - 1]'(by omega)).toNat : Int) 1 = 1 := u8_and1 (s[s.size - 1]'(by omega)).toNat_lt hz
      have hm' : mayE [s] = 0 := mayE_ok fun t ht => by rw [List.mem_singleton.1 ht]; exact hm
      clear hz hm
      rcases hx with hx | hx
      all_goals
        go_enter Tryz.func53, Tryz.ntmps53
        go_wp2_with (go_at_call 72; refine (Check_c _ _).mono ?_; rintro e w1 ⟨rfl, hb⟩; obtain ⟨hc, hfz⟩ := bcell hb)
        go_ret
        exact ⟨rfl, box_below hb⟩
end Go.Proofs.YtmjjodficjjehabGreatDoor
namespace Go.Proofs.YtmjjodficjjehabGreatDoor
open Go Go.RowKit Nt
@[irreducible] def sgnI (g : Bool) : Int := if g then -1 else 1
theorem sgn_t : sgnI true = -1 := by unfold sgnI; rfl
theorem sgn_f : sgnI false = 1 := by unfold sgnI; rfl
set_option maxRecDepth 100000 in
theorem DSign_zero (w : World) : Calls Tryz.prog 65 #[.agg #[.bool false, .string ⟨#[]⟩, .int .i64 0]] w fun e w' => e = .returned (.int .i64 0) ∧ Below w.heap.size w w' := by
  go_enter Tryz.func65, Tryz.ntmps65
  go_wp2_with (go_at_call 53; refine (DCheck_zero _).mono ?_; rintro e w1 ⟨rfl, hb⟩; obtain ⟨hc, hfz⟩ := bcell hb)
  go_ret
  exact ⟨rfl, box_below hb⟩
set_option maxRecDepth 100000 in
theorem DSign_num (g : Bool) (n : Nat) (x : Int) (w : World) (hf : fits n) (ho : n % 2 = 1) (h1 : -1048576 ≤ x) (h2 : x ≤ 1048576) :
    Calls Tryz.prog 65 #[.agg #[.bool g, .string (natS n), .int .i64 x]] w fun e w' => e = .returned (.int .i64 (sgnI g)) ∧ Below w.heap.size w w' := by
  have hE := natS_full (odd_ne ho)
  have hE2 := natS_full2 (odd_ne ho)
  have HO := Lib.hid ho
  clear ho
  cases g
  all_goals
    go_enter Tryz.func65, Tryz.ntmps65
    go_wp2_with (go_at_call 53; refine (DCheck_num _ _ _ _ hf HO.out h1 h2).mono ?_; rintro e w1 ⟨rfl, hb⟩; obtain ⟨hc, hfz⟩ := bcell hb)
    go_ret
  · exact ⟨by rw [sgn_f]; rfl, box_below hb⟩
  · exact ⟨by rw [sgn_t]; rfl, box_below hb⟩
theorem bits_131072' {n : Nat} (h : fits n) : nd 2 n ≤ 131072 := by
  have := (bits_le n 16384).2 h; omega
theorem sgn_ne (g : Bool) : (sgnI g == 0) = false := by cases g <;> simp [sgn_t, sgn_f]
theorem sgn_ne2 (g : Bool) : ¬ sgnI g = 0 := by cases g <;> simp [sgn_t, sgn_f]
set_option maxRecDepth 100000 in
theorem DTop_num (g : Bool) (n : Nat) (x : Int) (w : World) (hf : fits n) (ho : n % 2 = 1) (h1 : -1048576 ≤ x) (h2 : x ≤ 1048576) :
    Calls Tryz.prog 84 #[.agg #[.bool g, .string (natS n), .int .i64 x]] w fun e w' => e = .returned (.tuple #[.int .i64 ((nd 2 n : Nat) - 1 + x), .bool true]) ∧ Below w.heap.size w w' := by
  have HO := Lib.hid ho
  have hb2 := bits_131072' hf
  have hg := sgn_ne g
  have hg2 := sgn_ne2 g
  clear ho
  go_enter Tryz.func84, Tryz.ntmps84
  go_wp2_with (first
    | (go_at_call 65; refine (DSign_num _ _ _ _ hf HO.out h1 h2).mono ?_; rintro e w1 ⟨rfl, hb⟩; obtain ⟨hc, hfz⟩ := bcell hb; have hz : w.heap.size < w1.heap.size := by have := hb.size; simp at this; omega)
    | (go_at_call 108; refine (NLen_c _ _ hf).mono ?_; rintro e w2 ⟨rfl, hb'⟩; obtain ⟨hc', hfz'⟩ := bcell hb'))
  go_ret2
  exact ⟨rfl, (box_below hb).trans (hb'.mono (by omega))⟩
theorem box2 {w w1 : World} {b c : Obj} (hb : Below ((w.alloc b).alloc c).heap.size ((w.alloc b).alloc c) w1) : Below w.heap.size w w1 := (((Below.refl _ _).alloc (Nat.le_refl _) _).alloc (by simp) _).trans (hb.mono (by simp; omega))
theorem sz2 {w w1 : World} {b c : Obj} (hb : Below ((w.alloc b).alloc c).heap.size ((w.alloc b).alloc c) w1) : w.heap.size + 1 < w1.heap.size := by have := hb.size; simp at this; omega
set_option maxRecDepth 100000 in
theorem DNeg_zero (w : World) : Calls Tryz.prog 43 #[.agg #[.bool false, .string ⟨#[]⟩, .int .i64 0]] w fun e w' => e = .returned (.agg #[.bool false, .string ⟨#[]⟩, .int .i64 0]) ∧ Below w.heap.size w w' := by
  go_enter Tryz.func43, Tryz.ntmps43
  go_wp2_with (go_at_call 65; refine (DSign_zero _).mono ?_; rintro e w1 ⟨rfl, hb⟩; obtain ⟨hc, hfz⟩ := bcell hb; have hz := sz2 hb)
  refine bodyPost_ret (v := .agg #[.bool false, .string ⟨#[]⟩, .int .i64 0]) (by simp [results, Tryz.results43, go_sem, hc, hz]) rfl ⟨rfl, ?_⟩
  repeat (refine Below.setCell ?_ (by simp) _)
  exact box2 hb
set_option maxRecDepth 100000 in
theorem DNeg_num (g : Bool) (n : Nat) (x : Int) (w : World) (hf : fits n) (ho : n % 2 = 1) (h1 : -1048576 ≤ x) (h2 : x ≤ 1048576) :
    Calls Tryz.prog 43 #[.agg #[.bool g, .string (natS n), .int .i64 x]] w fun e w' => e = .returned (.agg #[.bool (!g), .string (natS n), .int .i64 x]) ∧ Below w.heap.size w w' := by
  have HO := Lib.hid ho
  have hg := sgn_ne g
  have hg2 := sgn_ne2 g
  clear ho
  go_enter Tryz.func43, Tryz.ntmps43
  go_wp2_with (go_at_call 65; refine (DSign_num _ _ _ _ hf HO.out h1 h2).mono ?_; rintro e w1 ⟨rfl, hb⟩; obtain ⟨hc, hfz⟩ := bcell hb; have hz := sz2 hb; have hc0 : w1.cell? ⟨w.heap.size, 0, none⟩ = some (.bool g) := (hc _ _ (by simp; omega)).trans (by simp [go_sem]); have hs0 : (w1.cell? ⟨w.heap.size, 0, none⟩).isSome = true := (by rw [hc0]; rfl))
  refine bodyPost_ret (v := .agg #[.bool (!g), .string (natS n), .int .i64 x]) (by simp [results, Tryz.results43, go_sem, hc, hz]) rfl ⟨rfl, ?_⟩
  repeat (refine Below.setCell ?_ (by simp) _)
  exact box2 hb
end Go.Proofs.YtmjjodficjjehabGreatDoor
namespace Go.Proofs.YtmjjodficjjehabGreatDoor
open Go Go.RowKit Nt
theorem dlget3 (b n L i : Nat) (h : i < (dl b n L).length) : (dl b n L)[i] = dgt b n i := by
  have := dl_get? b n L i (by rw [dl_length] at h; exact h)
  rw [List.getElem?_eq_getElem h] at this
  exact Option.some.inj this
end Go.Proofs.YtmjjodficjjehabGreatDoor
namespace Go.Proofs.YtmjjodficjjehabGreatDoor
open Go Go.RowKit Nt
theorem Own.take {w : World} {B : Nat} {T : TypeId} {k : IntKind} {A : Option Addr} {L c : Nat} {l : List Nat} (h : Own w B T k (.slice A L c) l) {m : Nat} (hm : m ≤ l.length) : Own w B T k (.slice A m c) (l.take m) := by
  have hl : (l.take m).length = m := by rw [List.length_take]; omega
  unfold Own
  rw [hl]
  refine ⟨by simp; omega, ?_⟩
  rcases h.2 with ⟨e, h0⟩ | ⟨g, cap, cur, e, hB, hh, hn, hmx, hs, ht⟩
  · injection e with e1 e2 e3
    refine Or.inl ⟨?_, by omega⟩
    rw [e1, e3, show m = 0 by omega]
  · injection e with e1 e2 e3
    refine Or.inr ⟨g, cap, cur, by rw [e1, e3], hB, hh, by omega, hmx, hs, ?_⟩
    rw [Nat.mul_one] at ht ⊢
    rw [List.map_take, ← ht, List.take_take, Nat.min_eq_left hm]
theorem dl_take (b n : Nat) {L m : Nat} (h : m ≤ L) : (dl b n L).take m = dl b n m := by
  apply List.ext_getElem
  · rw [List.length_take, dl_length, dl_length]; omega
  · intro i h1 h2
    rw [List.getElem_take, dlget3, dlget3]
theorem Own.cut {w : World} {B : Nat} {T : TypeId} {k : IntKind} {A : Option Addr} {L c n : Nat} (h : Own w B T k (.slice A L c) (dl 256 n L)) (hn : nd 256 n ≤ L) : Own w B T k (.slice A (nd 256 n) c) (dl 256 n (nd 256 n)) := by
  have := h.take (m := nd 256 n) (by rw [dl_length]; exact hn)
  rwa [dl_take 256 n hn] at this
end Go.Proofs.YtmjjodficjjehabGreatDoor
namespace Go.Proofs.YtmjjodficjjehabGreatDoor
open Go Go.RowKit Nt
theorem tz8_spec : ∀ n : Fin 256, n.val ≠ 0 → Lib.trailingZeros8 n.val < 8 ∧ n.val / 2 ^ Lib.trailingZeros8 n.val % 2 = 1 ∧ ∀ j : Fin 8, j.val < Lib.trailingZeros8 n.val → n.val / 2 ^ j.val % 2 = 0 := by decide +kernel
def IsLow (n l : Nat) : Prop := (n = 0 → l = 0) ∧ (n ≠ 0 → dgt 2 n l = 1 ∧ ∀ j, j < l → dgt 2 n j = 0)
theorem low_lt {n l : Nat} (h0 : n ≠ 0) (h : IsLow n l) : l < nd 2 n := by
  rcases Nat.lt_or_ge l (nd 2 n) with h1 | h1
  · exact h1
  · have := dgt_big (b := 2) (by omega) h1; have := (h.2 h0).1; omega
theorem low_unique {n k l : Nat} (hk : IsLow n k) (hl : IsLow n l) : k = l := by
  by_cases h0 : n = 0
  · rw [hk.1 h0, hl.1 h0]
  · obtain ⟨k1, k2⟩ := hk.2 h0
    obtain ⟨l1, l2⟩ := hl.2 h0
    rcases Nat.lt_trichotomy k l with h | h | h
    · have := l2 k h; omega
    · exact h
    · have := k2 l h; omega
theorem low_byte {n q : Nat} (hz : ∀ j, j < q → dgt 256 n j = 0) (hb : dgt 256 n q ≠ 0) : IsLow n (8 * q + Lib.trailingZeros8 (dgt 256 n q)) := by
  have hlt := dgt_lt (b := 256) (by omega) n q
  obtain ⟨t1, t2, t3⟩ := tz8_spec ⟨dgt 256 n q, hlt⟩ hb
  simp only at t1 t2 t3
  have h0 : n ≠ 0 := fun c => hb (by rw [c, dgt_def, Nat.zero_div])
  refine ⟨fun c => absurd c h0, fun _ => ⟨?_, fun j hj => ?_⟩⟩
  · rw [← byte_bit n q _ t1]; exact t2
  · by_cases h : j / 8 < q
    · have e := byte_bit n (j / 8) (j % 8) (by omega)
      rw [show 8 * (j / 8) + j % 8 = j by omega, hz _ h, Nat.zero_div] at e
      exact e.symm
    · have hq : j / 8 = q := by omega
      have e := byte_bit n q (j % 8) (by omega)
      rw [show 8 * q + j % 8 = j by omega] at e
      rw [← e]
      exact t3 ⟨j % 8, by omega⟩ (by show j % 8 < _; omega)
set_option maxRecDepth 100000 in
theorem NLow_c (n l : Nat) (w : World) (hf : fits n) (hl : IsLow n l) :
    Calls Tryz.prog 107 #[.string (natS n)] w (IntPost (l : Nat) 0 w) := by
  have hm := may1 hf
  have hsz := natS_size n
  have hL : nd 256 n ≤ 16384 := hf
  obtain ⟨N, hN⟩ : ∃ N, N = nd 256 n := ⟨_, rfl⟩
  have hg := fun k (h : k < (natS n).size) => natS_get n k h
  rw [← hN] at hsz hL hg
  have HG := Lib.hid hg
  have HN := Lib.hid hN
  have HL := Lib.hid hl
  clear hN hg hl hf
  go_enter Tryz.func107, Tryz.ntmps107
  go_wp2_with (go_at_call 72; refine (Check_c _ _).mono ?_; rintro e w1 ⟨rfl, hb⟩)
  go_loopw [5] (fun i wr => ∃ (k : Nat) (z : Int), k ≤ N ∧ i = .int .i64 z ∧ Hid (z = (k : Int) - 1) ∧ Hid (∀ j, j < N - k → dgt 256 n j = 0) ∧ Below w.heap.size w wr) (fun i _ => (intOf i + 1).toNat)
  case atStart => exact ⟨N, _, Nat.le_refl _, rfl, Lib.hid (by first | rfl | omega | go_num), Lib.hid (fun j h => by omega), hb⟩
  case round =>
    obtain ⟨k, z, hk, rfl, hz, hj, hbw⟩ := hrel
    by_cases h0 : k = 0
    · subst h0
      obtain rfl : z = -1 := by have := hz.out; omega
      have HZ := Lib.hid (show l = 0 by
        refine HL.out.1 ((nd_eq_zero (b := 256) (by omega)).1 ?_)
        rcases Nat.eq_zero_or_pos (nd 256 n) with c | c
        · exact c
        · have h1 := dgt_top (b := 256) (n := n) (by omega) (fun d => by rw [d, nd_zero] at c; omega)
          exact absurd (hj.out (nd 256 n - 1) (by have := HN.out; omega)) h1)
      go_wp2
      go_ret2
      exact ⟨by rw [HZ.out]; rfl, hbw⟩
    · obtain ⟨m, rfl⟩ : ∃ m, k = m + 1 := ⟨k - 1, by omega⟩
      obtain rfl : z = (m : Int) := by have := hz.out; omega
      have hms : m < (natS n).size := by omega
      have e := HG.out m hms
      have hlt := (natS n)[m].toNat_lt
      have hw : wrap64 ((m : Int) - 1) = (m : Int) - 1 := IntWalk.wrap64_in _ (by omega)
      by_cases h1 : (natS n)[m].toNat = 0
      · have h1' := nne_false h1
        have HJ := Lib.hid (show ∀ j, j < N - m → dgt 256 n j = 0 from fun j hj2 => by
          by_cases c : j = N - 1 - m
          · rw [c, ← e]; exact h1
          · exact hj.out j (by omega))
        clear h1 e
        go_wp2
        go_roundw
        case rel => exact ⟨m, _, by omega, rfl, Lib.hid rfl, HJ, hbw⟩
        case measure => simp [intOf]; try omega
      · have h1' := nne_true h1
        have hlo := low_byte (n := n) (q := N - 1 - m) (fun j h => hj.out j (by omega)) (by rw [← e]; exact h1)
        rw [← e] at hlo
        obtain ⟨t, ht⟩ : ∃ t, t = Lib.trailingZeros8 (natS n)[m].toNat := ⟨_, rfl⟩
        have ht8 : t ≤ 8 := by rw [ht]; exact Lib.trailingZeros8_le8 ⟨(natS n)[m].toNat, hlt⟩
        have ht2 : ∀ w, Calls Tryz.prog 114 #[.int .u8 ((natS n)[m].toNat : Nat)] w fun e w' => e = .returned (.int .i64 (t : Nat)) ∧ w = w' := fun w => by
          refine (Tryz.bits_TrailingZeros8 _ _ (by omega) (by omega)).mono ?_
          rintro e w' ⟨rfl, rfl⟩
          exact ⟨by rw [Int.toNat_natCast, ← ht], rfl⟩
        rw [← ht] at hlo
        have hfin := low_unique HL.out hlo
        obtain ⟨q, hq⟩ : ∃ q, q = N - 1 - m := ⟨_, rfl⟩
        rw [← hq] at hfin
        have hqI : (N : Int) - 1 - (m : Int) = (q : Int) := by omega
        have HF := Lib.hid hfin
        have K := Lib.hid ht2
        have hqN : q ≤ 16384 := by omega
        clear h1 e hlo ht ht2 hfin hq
        go_wp2_with (go_at_call 114; refine (K.out _).mono ?_; rintro e w' ⟨rfl, rfl⟩)
        go_ret2
        exact ⟨by rw [HF.out]; congr 1, hbw⟩
end Go.Proofs.YtmjjodficjjehabGreatDoor
namespace Go.Proofs.YtmjjodficjjehabGreatDoor
open Go Go.RowKit Nt
def lowN (n : Nat) : Nat := if h : n = 0 ∨ n % 2 = 1 then 0 else lowN (n / 2) + 1
termination_by n
decreasing_by omega
theorem lowN_odd {n : Nat} (h : n % 2 = 1) : lowN n = 0 := by unfold lowN; rw [dif_pos (Or.inr h)]
theorem lowN_zero : lowN 0 = 0 := by unfold lowN; rw [dif_pos (Or.inl rfl)]
theorem lowN_even {n : Nat} (h0 : n ≠ 0) (h : n % 2 = 0) : lowN n = lowN (n / 2) + 1 := by
  have e : ¬ (n = 0 ∨ n % 2 = 1) := fun c => by rcases c with c | c; exact h0 c; omega
  rw [lowN.eq_1 n, dif_neg e]
theorem lowN_ex (n : Nat) (h0 : n ≠ 0) : ∃ o, o % 2 = 1 ∧ n = o * 2 ^ lowN n := by
  induction n using Nat.strongRecOn with
  | ind n ih =>
    by_cases h : n % 2 = 1
    · exact ⟨n, h, by rw [lowN_odd h, Nat.pow_zero, Nat.mul_one]⟩
    · obtain ⟨o, ho, e⟩ := ih (n / 2) (by omega) (by omega)
      refine ⟨o, ho, ?_⟩
      rw [lowN_even h0 (by omega), Nat.pow_succ, ← Nat.mul_assoc, ← e]; omega
def odN (n : Nat) : Nat := n / 2 ^ lowN n
theorem odN_spec {n : Nat} (h0 : n ≠ 0) : odN n % 2 = 1 ∧ n = odN n * 2 ^ lowN n := by
  obtain ⟨o, ho, e⟩ := lowN_ex n h0
  have e2 : odN n = o := by
    unfold odN
    generalize lowN n = k at *
    rw [e, Nat.mul_div_cancel _ (Nat.two_pow_pos _)]
  rw [e2]; exact ⟨ho, e⟩
theorem odN_pos {n : Nat} (h0 : n ≠ 0) : odN n ≠ 0 := odd_ne (odN_spec h0).1
theorem odd_pow {o l m k : Nat} (ho : o % 2 = 1) (hm : m % 2 = 1) (h : o * 2 ^ l = m * 2 ^ k) : l = k ∧ o = m := by
  induction l generalizing k with
  | zero =>
    cases k with
    | zero => exact ⟨rfl, by simpa using h⟩
    | succ k => rw [Nat.pow_zero, Nat.mul_one, Nat.pow_succ, ← Nat.mul_assoc] at h; omega
  | succ l ih =>
    cases k with
    | zero => rw [Nat.pow_zero, Nat.mul_one, Nat.pow_succ, ← Nat.mul_assoc] at h; omega
    | succ k =>
      rw [Nat.pow_succ, Nat.pow_succ, ← Nat.mul_assoc, ← Nat.mul_assoc] at h
      obtain ⟨e1, e2⟩ := ih (k := k) (by omega)
      exact ⟨by rw [e1], e2⟩
theorem od_unique {n o l : Nat} (ho : o % 2 = 1) (h : n = o * 2 ^ l) : lowN n = l ∧ odN n = o := by
  have h0 : n ≠ 0 := fun c => by
    rw [c] at h
    rcases Nat.mul_eq_zero.1 h.symm with c | c
    · exact odd_ne ho c
    · exact absurd c (Nat.pos_iff_ne_zero.1 (Nat.two_pow_pos l))
  obtain ⟨h1, h2⟩ := odN_spec h0
  exact odd_pow h1 ho (h2.symm.trans h)
theorem od_mul {n : Nat} (h0 : n ≠ 0) (k : Nat) : lowN (n * 2 ^ k) = lowN n + k ∧ odN (n * 2 ^ k) = odN n := by
  obtain ⟨h1, h2⟩ := odN_spec h0
  refine od_unique h1 ?_
  rw [Nat.pow_add, ← Nat.mul_assoc, ← h2]
theorem odN_odd {n : Nat} (h : n % 2 = 1) : odN n = n := (od_unique (l := 0) h (by rw [Nat.pow_zero, Nat.mul_one])).2
theorem odN_zero : odN 0 = 0 := by unfold odN; rw [Nat.zero_div]
theorem lowN_is (n : Nat) : IsLow n (lowN n) := by
  refine ⟨fun c => by rw [c, lowN_zero], fun h0 => ?_⟩
  obtain ⟨h1, h2⟩ := odN_spec h0
  refine ⟨?_, fun j hj => ?_⟩
  · rw [dgt_def]; exact h1
  · rw [dgt_def, h2, show lowN n = j + (lowN n - j) by omega, Nat.pow_add, Nat.mul_left_comm, Nat.mul_div_cancel_left _ (Nat.two_pow_pos j), show lowN n - j = (lowN n - j - 1) + 1 by omega, Nat.pow_succ, ← Nat.mul_assoc]
    omega
theorem odN_le (n : Nat) : odN n ≤ n := Nat.div_le_self _ _
theorem nd_odN {n : Nat} (h0 : n ≠ 0) : nd 2 n = nd 2 (odN n) + lowN n := by
  have h := nd_mul_pow (j := lowN n) (odN_pos h0)
  rwa [← (odN_spec h0).2] at h
structure Dy where
  g : Bool
  n : Nat
  x : Int
def Dy.v (d : Dy) : Value := .agg #[.bool d.g, .string (natS d.n), .int .i64 d.x]
def Dy.zero : Dy := ⟨false, 0, 0⟩
def Dy.Num (d : Dy) : Prop := fits d.n ∧ d.n % 2 = 1 ∧ -1048576 ≤ d.x ∧ d.x ≤ 1048576
def Dy.Ok (d : Dy) : Prop := d = Dy.zero ∨ d.Num
theorem Dy.zero_v : Dy.zero.v = .agg #[.bool false, .string ⟨#[]⟩, .int .i64 0] := by unfold Dy.v Dy.zero; rw [natS_zero]
theorem fits_zero : fits 0 := by unfold fits; rw [nd_zero]; omega
theorem DOk_dy {g : Bool} {s : ByteArray} {x : Int} (h : DOk g s x) : ∃ d : Dy, d.Ok ∧ g = d.g ∧ s = natS d.n ∧ x = d.x := by
  rcases h with ⟨rfl, rfl, rfl⟩ | ⟨n, hf, ho, rfl, h1, h2⟩
  · exact ⟨Dy.zero, Or.inl rfl, rfl, natS_zero.symm, rfl⟩
  · exact ⟨⟨g, n, x⟩, Or.inr ⟨hf, ho, h1, h2⟩, rfl, rfl, rfl⟩
def mkOk3 (n : Nat) (x : Int) : Prop := n = 0 ∨ (fits (odN n) ∧ -1048576 ≤ x + lowN n ∧ x + lowN n ≤ 1048576)
instance (n : Nat) (x : Int) : Decidable (mkOk3 n x) := by unfold mkOk3 fits; exact inferInstance
@[irreducible] def mkD (g : Bool) (n : Nat) (x : Int) : Dy := if n ≠ 0 ∧ mkOk3 n x then ⟨g, odN n, x + lowN n⟩ else Dy.zero
@[irreducible] def mkE (n : Nat) (x : Int) : Int := if mkOk3 n x then 0 else 4
theorem mkD_zero (g : Bool) (x : Int) : mkD g 0 x = Dy.zero := by unfold mkD; rw [if_neg (fun c => c.1 rfl)]
theorem mkE_zero (x : Int) : mkE 0 x = 0 := by unfold mkE; exact if_pos (Or.inl rfl)
theorem mkD_ok {g : Bool} {n : Nat} {x : Int} (h0 : n ≠ 0) (h : mkOk3 n x) : mkD g n x = ⟨g, odN n, x + lowN n⟩ := by unfold mkD; rw [if_pos ⟨h0, h⟩]
theorem mkE_ok {n : Nat} {x : Int} (h : mkOk3 n x) : mkE n x = 0 := by unfold mkE; rw [if_pos h]
theorem mkD_no {g : Bool} {n : Nat} {x : Int} (h : ¬ mkOk3 n x) : mkD g n x = Dy.zero := by unfold mkD; rw [if_neg (fun c => h c.2)]
theorem mkE_no {n : Nat} {x : Int} (h : ¬ mkOk3 n x) : mkE n x = 4 := by unfold mkE; rw [if_neg h]
theorem mkD_Ok (g : Bool) (n : Nat) (x : Int) : (mkD g n x).Ok := by
  by_cases h0 : n = 0
  · subst h0; rw [mkD_zero]; exact Or.inl rfl
  · by_cases h : mkOk3 n x
    · rw [mkD_ok h0 h]
      rcases h with h | ⟨h1, h2, h3⟩
      · exact absurd h h0
      · exact Or.inr ⟨h1, (odN_spec h0).1, h2, h3⟩
    · rw [mkD_no h]; exact Or.inl rfl
theorem mkOk3_shift {n : Nat} (k : Nat) {x : Int} : mkOk3 (n * 2 ^ k) (x - k) ↔ mkOk3 n x := by
  by_cases h0 : n = 0
  · subst h0; rw [Nat.zero_mul]; exact ⟨fun _ => Or.inl rfl, fun _ => Or.inl rfl⟩
  · have h1 : n * 2 ^ k ≠ 0 := fun c => by
      rcases Nat.mul_eq_zero.1 c with c | c
      · exact h0 c
      · exact absurd c (Nat.pos_iff_ne_zero.1 (Nat.two_pow_pos k))
    obtain ⟨e1, e2⟩ := od_mul h0 k
    unfold mkOk3
    rw [e1, e2]
    have e : x - (k : Int) + ((lowN n + k : Nat) : Int) = x + lowN n := by omega
    rw [e]
    exact ⟨fun h => h.elim (fun c => absurd c h1) Or.inr, fun h => h.elim (fun c => absurd c h0) Or.inr⟩
theorem mkD_shift (g : Bool) (n k : Nat) (x : Int) : mkD g (n * 2 ^ k) (x - k) = mkD g n x ∧ mkE (n * 2 ^ k) (x - k) = mkE n x := by
  by_cases h0 : n = 0
  · subst h0; rw [Nat.zero_mul, mkD_zero, mkD_zero, mkE_zero, mkE_zero]; exact ⟨rfl, rfl⟩
  · have h1 : n * 2 ^ k ≠ 0 := fun c => by
      rcases Nat.mul_eq_zero.1 c with c | c
      · exact h0 c
      · exact absurd c (Nat.pos_iff_ne_zero.1 (Nat.two_pow_pos k))
    obtain ⟨e1, e2⟩ := od_mul h0 k
    by_cases h : mkOk3 n x
    · rw [mkD_ok h1 ((mkOk3_shift k).2 h), mkD_ok h0 h, mkE_ok ((mkOk3_shift k).2 h), mkE_ok h, e1, e2]
      refine ⟨?_, rfl⟩
      congr 1; omega
    · have h' : ¬ mkOk3 (n * 2 ^ k) (x - k) := fun c => h ((mkOk3_shift k).1 c)
      rw [mkD_no h', mkD_no h, mkE_no h', mkE_no h]; exact ⟨rfl, rfl⟩
theorem mkD_self {d : Dy} (h : d.Num) : mkD d.g d.n d.x = d ∧ mkE d.n d.x = 0 := by
  obtain ⟨h1, h2, h3, h4⟩ := h
  have e1 := lowN_odd h2
  have e2 := odN_odd h2
  have hk : mkOk3 d.n d.x := Or.inr ⟨by rw [e2]; exact h1, by rw [e1]; omega, by rw [e1]; omega⟩
  rw [mkD_ok (odd_ne h2) hk, mkE_ok hk, e1, e2]
  refine ⟨?_, rfl⟩
  obtain ⟨g, n, x⟩ := d
  simp
end Go.Proofs.YtmjjodficjjehabGreatDoor
namespace Go.Proofs.YtmjjodficjjehabGreatDoor
open Go Go.RowKit Nt
theorem wr_pow {d s r : Nat} (hs : 2 ^ r = s) : (d : Int) * 2 ^ r = ((d * s : Nat) : Int) := by rw [int_pow2, hs, Int.natCast_mul]
end Go.Proofs.YtmjjodficjjehabGreatDoor
namespace Go.Proofs.YtmjjodficjjehabGreatDoor
open Go Go.RowKit Nt
def DRow (w : World) (A : Option Addr) (n L : Nat) : Prop := ∀ j, j < L → ∃ g, A = some ⟨g, 0, none⟩ ∧ g < w.heap.size ∧ w.cell? ⟨g, j, none⟩ = some (.int .i64 (dgt 256 n j : Nat))
end Go.Proofs.YtmjjodficjjehabGreatDoor
namespace Go.Proofs.YtmjjodficjjehabGreatDoor
open Go Go.RowKit Nt
def MkPost (g : Bool) (n : Nat) (x : Int) (w : World) (e : Ending) (w' : World) : Prop := e = .returned (.tuple #[(mkD g n x).v, .int .i64 (mkE n x)]) ∧ Below w.heap.size w w'
theorem MkPost.no {g : Bool} {n : Nat} {x : Int} (h : ¬ mkOk3 n x) {w : World} {e : Ending} {w' : World} (he : e = .returned (.tuple #[.agg #[.bool false, .string ⟨#[]⟩, .int .i64 0], .int .i64 4])) (hb : Below w.heap.size w w') : MkPost g n x w e w' := by
  unfold MkPost
  rw [mkD_no h, mkE_no h, Dy.zero_v]
  exact ⟨he, hb⟩
theorem MkPost.zero {g : Bool} {x : Int} {w : World} {e : Ending} {w' : World} (he : e = .returned (.tuple #[.agg #[.bool false, .string ⟨#[]⟩, .int .i64 0], .int .i64 0])) (hb : Below w.heap.size w w') : MkPost g 0 x w e w' := by
  unfold MkPost
  rw [mkD_zero, mkE_zero, Dy.zero_v]
  exact ⟨he, hb⟩
theorem MkPost.ok {g : Bool} {n : Nat} {x : Int} (h0 : n ≠ 0) (h : mkOk3 n x) {w : World} {e : Ending} {w' : World} (he : e = .returned (.tuple #[.agg #[.bool g, .string (natS (odN n)), .int .i64 (x + lowN n)], .int .i64 0])) (hb : Below w.heap.size w w') : MkPost g n x w e w' := by
  unfold MkPost
  rw [mkD_ok h0 h, mkE_ok h]
  exact ⟨he, hb⟩
theorem box1 {w w1 : World} {b : Obj} (hb : Below (w.alloc b).heap.size (w.alloc b) w1) : w.heap.size < w1.heap.size := by have := hb.size; simp at this; omega
end Go.Proofs.YtmjjodficjjehabGreatDoor
namespace Go.Proofs.YtmjjodficjjehabGreatDoor
open Go Go.RowKit Nt
end Go.Proofs.YtmjjodficjjehabGreatDoor
namespace Go.Proofs.YtmjjodficjjehabGreatDoor
open Go Go.RowKit Nt
end Go.Proofs.YtmjjodficjjehabGreatDoor
namespace Go.Proofs.YtmjjodficjjehabGreatDoor
open Go Go.RowKit Nt
set_option maxRecDepth 100000 in
theorem DMake_zero (g : Bool) (x : Int) (w : World) :
    Calls Tryz.prog 83 #[.bool g, .string (natS 0), .int .i64 x] w (MkPost g 0 x w) := by
  have K := Lib.hid (fun w => NLow_c 0 0 w fits_zero ⟨fun _ => rfl, fun c => absurd rfl c⟩)
  rw [natS_zero] at K ⊢
  go_enter Tryz.func83, Tryz.ntmps83
  go_wp2_with (go_at_call 107; refine (K.out _).mono ?_; rintro e w1 ⟨rfl, hb⟩; obtain ⟨hcl, hfz⟩ := bcell hb; have hsz := box1 hb)
  refine bodyPost_ret (v := .tuple #[.agg #[.bool false, .string ⟨#[]⟩, .int .i64 0], .int .i64 0]) (by simp [results, Tryz.results83, go_sem, hcl, hsz]) rfl (MkPost.zero rfl ?_)
  repeat (refine Below.setCell ?_ (by simp) _)
  exact box_below hb
set_option maxRecDepth 100000 in
set_option maxHeartbeats 1000000 in
theorem DMake_no (g : Bool) (n : Nat) (x : Int) (w : World) (hf : fits n) (h0 : n ≠ 0) (hno : ¬ mkOk3 n x) (hx : -9223372036854775808 ≤ x ∧ x ≤ 9223372036854775807) :
    Calls Tryz.prog 83 #[.bool g, .string (natS n), .int .i64 x] w (MkPost g n x w) := by
  obtain ⟨l, hl⟩ : ∃ l, l = lowN n := ⟨_, rfl⟩
  have hll := low_lt h0 (lowN_is n)
  have hbb := bits_131072' hf
  have K := Lib.hid (fun w => NLow_c n l w hf (hl ▸ lowN_is n))
  have hE := natS_full h0
  have hE2 := natS_full2 h0
  have hlb : l ≤ 131072 := by omega
  have hcase : 1048576 < x ∨ (¬ 1048576 < x ∧ x < -1179648) ∨ (¬ 1048576 < x ∧ ¬ x < -1179648 ∧ 1048576 < x + (l : Int)) ∨ (¬ 1048576 < x ∧ ¬ x < -1179648 ∧ ¬ 1048576 < x + (l : Int) ∧ x + (l : Int) < -1048576) := by
    have ho : fits (odN n) := by unfold fits at *; exact Nat.le_trans (nd_mono (by omega) (odN_le n)) hf
    unfold mkOk3 at hno
    rw [← hl] at hno
    by_cases c1 : 1048576 < x
    · exact Or.inl c1
    by_cases c2 : x < -1179648
    · exact Or.inr (Or.inl ⟨c1, c2⟩)
    by_cases c3 : 1048576 < x + (l : Int)
    · exact Or.inr (Or.inr (Or.inl ⟨c1, c2, c3⟩))
    by_cases c4 : x + (l : Int) < -1048576
    · exact Or.inr (Or.inr (Or.inr ⟨c1, c2, c3, c4⟩))
    · exact absurd (Or.inr ⟨ho, by omega, by omega⟩) hno
  have HNO := Lib.hid hno
  clear hno hl hll hbb hf h0
  rcases hcase with c1 | ⟨c1, c2⟩ | ⟨c1, c2, c3⟩ | ⟨c1, c2, c3, c4⟩
  all_goals
    go_enter Tryz.func83, Tryz.ntmps83
    go_wp2_with (go_at_call 107; refine (K.out _).mono ?_; rintro e w1 ⟨rfl, hb⟩; obtain ⟨hcl, hfz⟩ := bcell hb; have hsz := box1 hb)
    refine bodyPost_ret (v := .tuple #[.agg #[.bool false, .string ⟨#[]⟩, .int .i64 0], .int .i64 4]) (by simp [results, Tryz.results83, go_sem, hcl, hsz]) rfl (MkPost.no HNO.out rfl ?_)
    repeat (refine Below.setCell ?_ (by simp) _)
    exact box_below hb
set_option maxRecDepth 100000 in
set_option maxHeartbeats 1000000 in
theorem DMake_ok (g : Bool) (n : Nat) (x : Int) (w : World) (hf : fits n) (h0 : n ≠ 0) (hok : mkOk3 n x) :
    Calls Tryz.prog 83 #[.bool g, .string (natS n), .int .i64 x] w (MkPost g n x w) := by
  obtain ⟨l, hl⟩ : ∃ l, l = lowN n := ⟨_, rfl⟩
  obtain ⟨o, ho⟩ : ∃ o, o = odN n := ⟨_, rfl⟩
  have hll := low_lt h0 (lowN_is n)
  rw [← hl] at hll
  have hbb := bits_131072' hf
  have K := Lib.hid (fun w => NLow_c n l w hf (hl ▸ lowN_is n))
  have KS : Hid (0 < l → ∀ w, Calls Tryz.prog 87 #[.string (natS n), .int .i64 (-(l : Int))] w (StrPost (natS o) 0 w)) := Lib.hid fun hl0 w => by
    have := NShift_down n l w hf h0 hl0 hll
    rw [hl] at this ⊢
    rw [ho]; exact this
  have hE := natS_full h0
  have hE2 := natS_full2 h0
  have hlb : l ≤ 131072 := by omega
  have hcase : ¬ 1048576 < x ∧ ¬ x < -1179648 ∧ ¬ 1048576 < x + (l : Int) ∧ ¬ x + (l : Int) < -1048576 := by
    have hk := hok
    unfold mkOk3 at hk
    rw [← hl] at hk
    rcases hk with hk | ⟨hk1, hk2, hk3⟩
    · exact absurd hk h0
    · exact ⟨by omega, by omega, by omega, by omega⟩
  have HOK := Lib.hid (fun (w' : World) (e : Ending) => @MkPost.ok g n x h0 hok w e w')
  rw [← hl, ← ho] at HOK
  have hon : l = 0 → o = n := fun c => by rw [ho]; unfold odN; rw [← hl, c, Nat.pow_zero, Nat.div_one]
  obtain ⟨c1, c2, c3, c4⟩ := hcase
  have HON := Lib.hid hon
  clear hok hl ho hll hbb hf h0 hon
  rcases Nat.eq_zero_or_pos l with hz | hz
  · subst hz
    obtain rfl := HON.out rfl
    go_enter Tryz.func83, Tryz.ntmps83
    go_wp2_with (go_at_call 107; refine (K.out _).mono ?_; rintro e w1 ⟨rfl, hb⟩; obtain ⟨hcl, hfz⟩ := bcell hb; have hsz := box1 hb)
    refine bodyPost_ret (v := .tuple #[.agg #[.bool g, .string (natS o), .int .i64 (x + ((0 : Nat) : Int))], .int .i64 0]) (by simp [results, Tryz.results83, go_sem, hcl, hsz]) rfl (HOK.out _ _ rfl ?_)
    repeat (refine Below.setCell ?_ (by simp) _)
    exact box_below hb
  · go_enter Tryz.func83, Tryz.ntmps83
    go_wp2_with (first
      | (go_at_call 107; refine (K.out _).mono ?_; rintro e w1 ⟨rfl, hb⟩)
      | (go_at_call 87; refine (KS.out hz _).mono ?_; rintro e w2 ⟨rfl, hb2⟩; have hb12 := hb.trans (hb2.mono hb.size); obtain ⟨hcl, hfz⟩ := bcell hb12; have hsz := box1 hb12))
    refine bodyPost_ret (v := .tuple #[.agg #[.bool g, .string (natS o), .int .i64 (x + (l : Int))], .int .i64 0]) (by simp [results, Tryz.results83, go_sem, hcl, hsz]) rfl (HOK.out _ _ rfl ?_)
    repeat (refine Below.setCell ?_ (by simp) _)
    exact box_below hb12
theorem DMake_c (g : Bool) (n : Nat) (x : Int) (w : World) (hf : fits n) (hx : -9223372036854775808 ≤ x ∧ x ≤ 9223372036854775807) :
    Calls Tryz.prog 83 #[.bool g, .string (natS n), .int .i64 x] w (MkPost g n x w) := by
  by_cases h0 : n = 0
  · subst h0; exact DMake_zero g x w
  · by_cases hk : mkOk3 n x
    · exact DMake_ok g n x w hf h0 hk
    · exact DMake_no g n x w hf h0 hk hx
end Go.Proofs.YtmjjodficjjehabGreatDoor
namespace Go.Proofs.YtmjjodficjjehabGreatDoor
open Go Go.RowKit Nt
theorem abs_fits {m : Nat} (h : m < 18446744073709551616) : fits m := by have := br_lt.2 h; unfold fits; omega
theorem neg_words {z : Int} (h1 : -9223372036854775808 ≤ z) (h2 : z < 0) : IntKind.u64.wrap z = z + 18446744073709551616 ∧ IntKind.u64.wrap (-(z + 18446744073709551616)) = (z.natAbs : Int) := by
  rw [IntKind.wrap_u64, IntKind.wrap_u64]; omega
theorem pos_words {z : Int} (h1 : z ≤ 9223372036854775807) (h2 : ¬ z < 0) : IntKind.u64.wrap z = (z.natAbs : Int) := by
  rw [IntKind.wrap_u64]; omega
set_option maxRecDepth 100000 in
set_option maxHeartbeats 1000000 in
theorem DOf_c (z x : Int) (w : World) (hz : -9223372036854775808 ≤ z ∧ z ≤ 9223372036854775807) (hx : -9223372036854775808 ≤ x ∧ x ≤ 9223372036854775807) :
    Calls Tryz.prog 80 #[.int .i64 z, .int .i64 x] w (MkPost (decide (z < 0)) z.natAbs x w) := by
  obtain ⟨m, hm⟩ : ∃ m, m = z.natAbs := ⟨_, rfl⟩
  have hmb : m < 18446744073709551616 := by omega
  have KO := Lib.hid (fun w => Of_n m w hmb)
  have KM := Lib.hid (fun g w => DMake_c g m x w (abs_fits hmb) hx)
  rw [← hm]
  by_cases h0 : z < 0
  · obtain ⟨e1, e2⟩ := neg_words hz.1 h0
    rw [← hm] at e2
    have hd : decide (z < 0) = true := decide_eq_true h0
    rw [hd]
    clear hm hmb hx hz
    go_enter Tryz.func80, Tryz.ntmps80
    go_wp2_with (first
      | (go_at_call 26; refine (KO.out _).mono ?_; rintro e w1 ⟨rfl, hb⟩)
      | (go_at_call 83; refine (KM.out _ _).mono ?_; rintro e w2 ⟨rfl, hb2⟩; have hb12 := hb.trans (hb2.mono hb.size); obtain ⟨hcl, hfz⟩ := bcell hb12; have hsz := box1 hb12; unfold Dy.v))
    refine bodyPost_ret (v := .tuple #[(mkD true m x).v, .int .i64 (mkE m x)]) (by simp [results, Tryz.results80, go_sem, hcl, hsz, Dy.v]) rfl ⟨rfl, ?_⟩
    repeat (refine Below.setCell ?_ (by simp) _)
    exact box_below hb12
  · have e1 := pos_words hz.2 h0
    rw [← hm] at e1
    have hd : decide (z < 0) = false := decide_eq_false h0
    rw [hd]
    clear hm hmb hx hz
    go_enter Tryz.func80, Tryz.ntmps80
    go_wp2_with (first
      | (go_at_call 26; refine (KO.out _).mono ?_; rintro e w1 ⟨rfl, hb⟩)
      | (go_at_call 83; refine (KM.out _ _).mono ?_; rintro e w2 ⟨rfl, hb2⟩; have hb12 := hb.trans (hb2.mono hb.size); obtain ⟨hcl, hfz⟩ := bcell hb12; have hsz := box1 hb12; unfold Dy.v))
    refine bodyPost_ret (v := .tuple #[(mkD false m x).v, .int .i64 (mkE m x)]) (by simp [results, Tryz.results80, go_sem, hcl, hsz, Dy.v]) rfl ⟨rfl, ?_⟩
    repeat (refine Below.setCell ?_ (by simp) _)
    exact box_below hb12
end Go.Proofs.YtmjjodficjjehabGreatDoor
namespace Go.Proofs.YtmjjodficjjehabGreatDoor.Bt.Ff
open Ieee
def rung (x : Nat) : Nat := x % 9223372036854775808
def sgn (x : Nat) : Bool := x / 9223372036854775808 % 2 == 1
def isn (x : Nat) : Prop := 9218868437227405312 < rung x
instance (x : Nat) : Decidable (isn x) := by unfold isn; exact inferInstance
def srung (x : Nat) : Int := if sgn x then -(rung x : Int) else (rung x : Int)
def mag (r : Nat) : Nat := if r < 4503599627370496 then r else (4503599627370496 + r % 4503599627370496) * 2 ^ (r / 4503599627370496 - 1)
theorem sw : double.signWeight = 9223372036854775808 := by decide
theorem bin : double.binade = 4503599627370496 := by decide
theorem infr : double.infRung = 9218868437227405312 := by decide
theorem lp : double.leastPlace = -1074 := by decide
theorem read_eq (x : Nat) : double.read x =
    if rung x < 4503599627370496 then .number (sgn x) (rung x) (-1074)
    else if rung x < 9218868437227405312 then .number (sgn x) (4503599627370496 + rung x % 4503599627370496) (-1074 + ((rung x / 4503599627370496 - 1 : Nat) : Int))
    else if rung x = 9218868437227405312 then .infinity (sgn x) else .nan (sgn x) (rung x - 9218868437227405312) := by
  unfold Format.read
  rw [sw, bin, infr, lp]
  rfl
theorem mag_small {r : Nat} (h : r < 4503599627370496) : mag r = r := by unfold mag; rw [if_pos h]
theorem mag_big {r : Nat} (h : ¬ r < 4503599627370496) : mag r = (4503599627370496 + r % 4503599627370496) * 2 ^ (r / 4503599627370496 - 1) := by unfold mag; rw [if_neg h]
theorem mag_step (r : Nat) : mag r < mag (r + 1) := by
  by_cases h : r < 4503599627370496
  · by_cases h2 : r + 1 < 4503599627370496
    · rw [mag_small h, mag_small h2]; omega
    · rw [mag_small h, mag_big h2]
      have e : r + 1 = 4503599627370496 := by omega
      have q : (4503599627370496 + 4503599627370496 % 4503599627370496) * 2 ^ (4503599627370496 / 4503599627370496 - 1) = 4503599627370496 := by simp
      rw [e, q]; omega
  · have h2 : ¬ r + 1 < 4503599627370496 := by omega
    rw [mag_big h, mag_big h2]
    by_cases hm : r % 4503599627370496 = 4503599627370495
    · have e1 : (r + 1) % 4503599627370496 = 0 := by omega
      have e2 : (r + 1) / 4503599627370496 - 1 = (r / 4503599627370496 - 1) + 1 := by omega
      rw [e1, e2, hm, Nat.pow_succ]
      have hp : 0 < 2 ^ (r / 4503599627370496 - 1) := Nat.two_pow_pos _
      generalize 2 ^ (r / 4503599627370496 - 1) = p at hp
      omega
    · have e1 : (r + 1) % 4503599627370496 = r % 4503599627370496 + 1 := by omega
      have e2 : (r + 1) / 4503599627370496 = r / 4503599627370496 := by omega
      rw [e1, e2]
      exact Nat.mul_lt_mul_of_pos_right (by omega) (Nat.two_pow_pos _)
theorem mag_lt {r s : Nat} (h : r < s) : mag r < mag s := by
  obtain ⟨k, rfl⟩ : ∃ k, s = r + 1 + k := ⟨s - (r + 1), by omega⟩
  clear h
  induction k with
  | zero => exact mag_step r
  | succ k ih => exact Nat.lt_trans ih (mag_step _)
theorem mag_lt_iff {r s : Nat} : mag r < mag s ↔ r < s := by
  constructor
  · intro h
    by_cases c : r < s
    · exact c
    · rcases Nat.lt_or_eq_of_le (Nat.le_of_not_lt c) with c | c
      · have := mag_lt c; omega
      · subst c; omega
  · exact mag_lt
theorem mag_zero : mag 0 = 0 := rfl
def sv (x : Nat) : Int := if sgn x then -(mag (rung x) : Int) else (mag (rung x) : Int)
theorem sv_lt {x y : Nat} : sv x < sv y ↔ srung x < srung y := by
  have h1 : mag (rung x) < mag (rung y) ↔ rung x < rung y := mag_lt_iff
  have h2 : mag (rung y) < mag (rung x) ↔ rung y < rung x := mag_lt_iff
  have h3 : 0 < mag (rung x) ↔ 0 < rung x := by have := @mag_lt_iff 0 (rung x); rwa [mag_zero] at this
  have h4 : 0 < mag (rung y) ↔ 0 < rung y := by have := @mag_lt_iff 0 (rung y); rwa [mag_zero] at this
  unfold sv srung
  split <;> split <;> omega
theorem compare_congr {a b c d : Int} (h : a < b ↔ c < d) (h' : b < a ↔ d < c) : compare a b = compare c d := by
  simp only [compare, compareOfLessAndEq]
  by_cases e : a < b
  · rw [if_pos e, if_pos (h.1 e)]
  · rw [if_neg e, if_neg (fun x => e (h.2 x))]
    by_cases f : a = b
    · rw [if_pos f, if_pos (by omega)]
    · rw [if_neg f, if_neg (by omega)]
theorem signed_eq (s : Bool) (m u : Nat) : signed s m u = if s then -((m * 2 ^ u : Nat) : Int) else ((m * 2 ^ u : Nat) : Int) := by
  unfold signed; rw [Nat.shiftLeft_eq]
theorem signed_scale (s : Bool) (m u k : Nat) : signed s m u * ((2 ^ k : Nat) : Int) = signed s m (u + k) := by
  rw [signed_eq, signed_eq, Nat.pow_add]
  have : (m * (2 ^ u * 2 ^ k)) = (m * 2 ^ u) * 2 ^ k := by rw [Nat.mul_assoc]
  rw [this]
  split
  · rw [Int.neg_mul]; rfl
  · rfl
theorem order_num (s t : Bool) (m n : Nat) (i j : Nat) :
    Datum.order (.number s m (-1074 + (i : Int))) (.number t n (-1074 + (j : Int))) = some (compare (signed s m i) (signed t n j)) := by
  simp only [Datum.order]
  congr 1
  obtain ⟨b, hb, h1, h2⟩ : ∃ b : Nat, min (-1074 + (i : Int)) (-1074 + (j : Int)) = -1074 + (b : Int) ∧ b ≤ i ∧ b ≤ j := by
    by_cases h : i ≤ j
    · exact ⟨i, by omega, by omega, h⟩
    · exact ⟨j, by omega, by omega, by omega⟩
  rw [hb]
  have e1 : (-1074 + (i : Int) - (-1074 + (b : Int))).toNat = i - b := by omega
  have e2 : (-1074 + (j : Int) - (-1074 + (b : Int))).toNat = j - b := by omega
  rw [e1, e2]
  have f1 := signed_scale s m (i - b) b
  have f2 := signed_scale t n (j - b) b
  rw [Nat.sub_add_cancel h1] at f1
  rw [Nat.sub_add_cancel h2] at f2
  rw [← f1, ← f2]
  have hp : (0 : Int) < ((2 ^ b : Nat) : Int) := by have := Nat.two_pow_pos b; omega
  apply compare_congr
  · exact (Int.mul_lt_mul_right hp).symm
  · exact (Int.mul_lt_mul_right hp).symm
theorem read_fin {x : Nat} (h : rung x < 9218868437227405312) : ∃ m i : Nat, double.read x = .number (sgn x) m (-1074 + (i : Int)) ∧ m * 2 ^ i = mag (rung x) := by
  rw [read_eq]
  by_cases c : rung x < 4503599627370496
  · rw [if_pos c]; exact ⟨rung x, 0, rfl, by rw [mag_small c]; simp⟩
  · rw [if_neg c, if_pos h]; exact ⟨_, _, rfl, by rw [mag_big c]⟩
theorem read_inf {x : Nat} (h : rung x = 9218868437227405312) : double.read x = .infinity (sgn x) := by
  rw [read_eq, if_neg (by omega), if_neg (by omega), if_pos h]
theorem read_nan {x : Nat} (h : isn x) : double.read x = .nan (sgn x) (rung x - 9218868437227405312) := by
  unfold isn at h
  rw [read_eq, if_neg (by omega), if_neg (by omega), if_neg (by omega)]
theorem rung_lt (x : Nat) : rung x < 9223372036854775808 := Nat.mod_lt _ (by decide)
theorem signed_sv {x m i : Nat} (h : m * 2 ^ i = mag (rung x)) : signed (sgn x) m i = sv x := by
  rw [signed_eq, h]; rfl
theorem order_eq (x y : Nat) : double.order x y = if isn x ∨ isn y then none else some (compare (srung x) (srung y)) := by
  unfold Format.order
  by_cases hx : isn x
  · rw [if_pos (Or.inl hx), read_nan hx]; rfl
  · by_cases hy : isn y
    · rw [if_pos (Or.inr hy), read_nan hy]; cases double.read x <;> rfl
    · rw [if_neg (fun h => h.elim hx hy)]
      have lx : rung x ≤ 9218868437227405312 := by unfold isn at hx; omega
      have ly : rung y ≤ 9218868437227405312 := by unfold isn at hy; omega
      rcases Nat.lt_or_eq_of_le lx with lx | lx <;> rcases Nat.lt_or_eq_of_le ly with ly | ly
      · obtain ⟨m, i, hm, em⟩ := read_fin lx
        obtain ⟨n, j, hn, en⟩ := read_fin ly
        rw [hm, hn, order_num, signed_sv em, signed_sv en]
        exact congrArg some (compare_congr sv_lt sv_lt)
      · obtain ⟨m, i, hm, em⟩ := read_fin lx
        rw [hm, read_inf ly]
        simp only [Datum.order, srung, ly]
        cases sgn y <;> simp only [if_true, if_false, Bool.false_eq_true] <;> congr 1 <;> symm
        · rw [show compare (if sgn x = true then -(rung x : Int) else (rung x : Int)) ((9218868437227405312 : Nat) : Int) = compare (0 : Int) 1 from compare_congr (by split <;> omega) (by split <;> omega)]; rfl
        · rw [show compare (if sgn x = true then -(rung x : Int) else (rung x : Int)) (-((9218868437227405312 : Nat) : Int)) = compare (1 : Int) 0 from compare_congr (by split <;> omega) (by split <;> omega)]; rfl
      · obtain ⟨n, j, hn, en⟩ := read_fin ly
        rw [hn, read_inf lx]
        simp only [Datum.order, srung, lx]
        cases sgn x <;> simp only [if_true, if_false, Bool.false_eq_true] <;> congr 1 <;> symm
        · rw [show compare ((9218868437227405312 : Nat) : Int) (if sgn y = true then -(rung y : Int) else (rung y : Int)) = compare (1 : Int) 0 from compare_congr (by split <;> omega) (by split <;> omega)]; rfl
        · rw [show compare (-((9218868437227405312 : Nat) : Int)) (if sgn y = true then -(rung y : Int) else (rung y : Int)) = compare (0 : Int) 1 from compare_congr (by split <;> omega) (by split <;> omega)]; rfl
      · rw [read_inf lx, read_inf ly]
        simp only [Datum.order, srung, lx, ly]
        cases sgn x <;> cases sgn y <;> decide
end Go.Proofs.YtmjjodficjjehabGreatDoor.Bt.Ff
namespace Go.Proofs.YtmjjodficjjehabGreatDoor.Bt
open Go Ff
theorem ext_bits (b : Nat) (w : World) : (callFunc 31 #[.float .f64 b]).run Tryz.prog w = .ok (.value (.int .u64 b)) w := by kernel_rfl
theorem ext_from (b : Nat) (w : World) : (callFunc 30 #[.int .u64 b]).run Tryz.prog w = .ok (.value (.float .f64 b)) w := by kernel_rfl
theorem isn_iff (x : Nat) : isn x ↔ 9218868437227405312 < rung x := Iff.rfl
theorem isn_ne (x : Nat) : (FloatKind.f64.format.order x x != some Ordering.eq) = decide (isn x) := by
  rw [show FloatKind.f64.format.order x x = _ from order_eq x x]
  by_cases h : isn x
  · simp [h]
  · simp [h, compare, compareOfLessAndEq]
theorem and_not_top (x : Nat) (hx : x < 18446744073709551616) : bits BinOp.andNot IntKind.u64 (x : Int) 9223372036854775808 = ((rung x : Nat) : Int) := by
  rw [show (9223372036854775808 : Int) = ((9223372036854775808 : Nat) : Int) from rfl, u64_andNot_nat x _ hx (by decide)]
  congr 1
  exact Nat.and_two_pow_sub_one_eq_mod x 63
theorem and_top (x : Nat) (hx : x < 18446744073709551616) : bits BinOp.and IntKind.u64 (x : Int) 9223372036854775808 = if sgn x then 9223372036854775808 else 0 := by
  rw [show (9223372036854775808 : Int) = ((9223372036854775808 : Nat) : Int) from rfl, u64_and_nat x _ hx (by decide), nat_bit 63 x]
  unfold sgn
  by_cases h : x / 2 ^ 63 % 2 = 1
  · rw [h]; simp
  · have : x / 2 ^ 63 % 2 = 0 := by omega
    rw [this]; simp
def kind (x : Nat) : Nat := if isn x then 5 else if rung x = 9218868437227405312 then 4 else if rung x = 0 then 1 else if rung x < 4503599627370496 then 2 else 3
theorem ret_int {k : IntKind} {a b : Int} (h : a = b) : Ending.returned (.int k a) = .returned (.int k b) := by rw [h]
theorem ret_bool {a b : Bool} (h : a = b) : Ending.returned (.bool a) = .returned (.bool b) := by rw [h]
@[irreducible] def infB (x : Nat) : Bool := rung x == 9218868437227405312
theorem infB_true (x : Nat) : infB x = true ↔ rung x = 9218868437227405312 := by unfold infB; exact beq_iff_eq
@[local go_sem] theorem eq_inf (x : Nat) : ((rung x : Int) == 9218868437227405312) = infB x := by
  rw [Bool.eq_iff_iff, beq_iff_eq, infB_true]; omega
@[irreducible] def subB (x : Nat) : Bool := decide (rung x < 4503599627370496)
theorem subB_true (x : Nat) : subB x = true ↔ rung x < 4503599627370496 := by unfold subB; exact decide_eq_true_iff
@[local go_sem] theorem lt_sub (x : Nat) : decide ((rung x : Int) < 4503599627370496) = subB x := by
  rw [Bool.eq_iff_iff, decide_eq_true_iff, subB_true]; omega
set_option maxRecDepth 100000 in
theorem KindOf_c (x : Nat) (hx : x < 18446744073709551616) (w : World) :
    Calls Tryz.prog 81 #[.float .f64 x] w fun e w' => e = .returned (.int .u8 (kind x)) ∧ w = w' := by
  have h44 := ext_bits
  have hb := and_not_top x hx
  have hn := isn_ne x
  have hr := rung_lt x
  go_enter Tryz.func81, Tryz.ntmps81
  go_wp2
  all_goals go_ret
  all_goals refine ⟨ret_int ?_, rfl⟩
  all_goals go_light
  all_goals clear h44 hb hn
  all_goals simp only [kind, isn_iff, beq_iff_eq, beq_eq_false_iff_ne, bne_iff_ne, bne_eq_false_iff_eq, ne_eq] at *
  all_goals repeat' split
  all_goals omega
end Go.Proofs.YtmjjodficjjehabGreatDoor.Bt
namespace Go.Proofs.YtmjjodficjjehabGreatDoor.Bt
open Go Go.RowKit Ff
@[irreducible] def finB (x : Nat) : Bool := decide (rung x < 9218868437227405312)
theorem finB_true (x : Nat) : finB x = true ↔ rung x < 9218868437227405312 := by unfold finB; exact decide_eq_true_iff
theorem finB_false (x : Nat) : finB x = false ↔ ¬ rung x < 9218868437227405312 := by unfold finB; exact decide_eq_false_iff_not
theorem kind_lt (x : Nat) : decide ((kind x : Int) < 4) = finB x := by
  rw [Bool.eq_iff_iff, decide_eq_true_iff, finB_true]
  simp only [kind, isn_iff]
  repeat' split
  all_goals omega
theorem Finite_c (x : Nat) (hx : x < 18446744073709551616) (w : World) :
    Calls Tryz.prog 56 #[.float .f64 x] w fun e w' => e = .returned (.bool (finB x)) ∧ w = w' := by
  go_enter Tryz.func56, Tryz.ntmps56
  go_wp2_with (go_at_call 81; refine (KindOf_c _ hx _).mono ?_; rintro e w' ⟨rfl, rfl⟩)
  go_ret
  exact ⟨ret_bool (kind_lt x), rfl⟩
@[irreducible] def topped (b : Nat) : Nat := 9223372036854775808 + b
theorem topped_eq (b : Nat) : topped b = 9223372036854775808 + b := by unfold topped; rfl
@[irreducible] def wf (neg : Bool) (r : Nat) : Nat := if neg then topped r else r
theorem wf_eq (neg : Bool) (r : Nat) : wf neg r = if neg then topped r else r := by unfold wf; rfl
theorem signed_b (neg : Bool) (b : Nat) (hb : b < 9223372036854775808) (w : World) :
    Calls Tryz.prog 116 #[.bool neg, .int .u64 b] w fun e w' => e = .returned (.float .f64 (wf neg b)) ∧ w = w' := by
  have h12 := ext_from
  have ho : bits BinOp.or IntKind.u64 (b : Int) 9223372036854775808 = ((topped b : Nat) : Int) := by
    rw [topped_eq, show (9223372036854775808 : Int) = ((9223372036854775808 : Nat) : Int) from rfl, u64_or_nat b _ (by omega) (by decide), Nat.or_comm]
    congr 1
    exact nat_join 63 _ _ (by decide) hb
  cases neg
  all_goals
    go_enter Tryz.func116, Tryz.ntmps116
    go_wp2
    all_goals go_ret
    all_goals exact ⟨by rw [wf_eq]; rfl, rfl⟩
theorem sub_self (x : Nat) (h : rung x < 9218868437227405312) : floatBits .sub .f64 x x = some 0 := by
  show Ieee.double.sub x x = some 0
  obtain ⟨m, i, hm, _⟩ := read_fin h
  unfold Ieee.Format.sub
  rw [hm]
  simp only [Ieee.Datum.opposite, Ieee.Datum.sum, Int.min_self, Int.sub_self]
  have e : Ieee.signed (sgn x) m (Int.toNat 0) + Ieee.signed (!sgn x) m (Int.toNat 0) = 0 := by
    rw [signed_eq, signed_eq]; cases sgn x <;> simp <;> omega
  rw [e]
  simp only [if_true, Bool.and_not_self]
  rfl
end Go.Proofs.YtmjjodficjjehabGreatDoor.Bt
namespace Go.Proofs.YtmjjodficjjehabGreatDoor.Bt
open Go
def tz (m : Nat) : Nat := Lib.ctz 64 m
def od (m : Nat) : Nat := m / 2 ^ tz m
theorem tz_spec {m : Nat} (h0 : 0 < m) (hm : m < 18446744073709551616) : od m * 2 ^ tz m = m ∧ od m % 2 = 1 ∧ tz m < 64 := by
  obtain ⟨q, hq, hk⟩ := Lib.ctzFrom_spec 64 m h0 (by omega)
  have e : tz m = Lib.ctzFrom 64 m := by unfold tz Lib.ctz; rw [if_neg (by omega)]
  have e2 : od m = 2 * q + 1 := by
    unfold od; rw [e]
    have hp := Nat.two_pow_pos (Lib.ctzFrom 64 m)
    generalize Lib.ctzFrom 64 m = k at hq hp ⊢
    rw [hq, Nat.mul_comm, Nat.mul_div_cancel _ hp]
  refine ⟨?_, by omega, by omega⟩
  rw [e2, e, Nat.mul_comm]; exact hq.symm
theorem od_pos {m : Nat} (h0 : 0 < m) (hm : m < 18446744073709551616) : 0 < od m := by have := (tz_spec h0 hm).2.1; omega
theorem od_le {m : Nat} : od m ≤ m := Nat.div_le_self _ _
theorem bl_spec : ∀ (f m : Nat), m < 2 ^ f → m < 2 ^ Lib.bitLenAux f m ∧ (0 < m → 2 ^ Lib.bitLenAux f m ≤ 2 * m) ∧ Lib.bitLenAux f m ≤ f
  | 0, m, h => by simp at h; subst h; simp [Lib.bitLenAux]
  | f + 1, m, h => by
    rw [Lib.bitLenAux]
    by_cases c : m = 0
    · rw [if_pos c]; subst c; simp
    · rw [if_neg c]
      have hp := Nat.pow_succ (n := 2) (m := f)
      obtain ⟨h1, h2, h3⟩ := bl_spec f (m / 2) (by omega)
      rw [Nat.add_comm 1, Nat.pow_succ]
      refine ⟨by omega, fun _ => ?_, by omega⟩
      by_cases c2 : m / 2 = 0
      · have : m = 1 := by omega
        subst this
        have e : Lib.bitLenAux f (1 / 2) = 0 := by cases f <;> simp [Lib.bitLenAux]
        rw [e]; decide
      · have := h2 (by omega); omega
theorem bl_lt {m : Nat} (h : m < 18446744073709551616) : m < 2 ^ Lib.bitLen m := (bl_spec 64 m h).1
theorem bl_ge {m : Nat} (h : m < 18446744073709551616) (h0 : 0 < m) : 2 ^ Lib.bitLen m ≤ 2 * m := (bl_spec 64 m h).2.1 h0
theorem bl_le {m : Nat} (h : m < 18446744073709551616) : Lib.bitLen m ≤ 64 := (bl_spec 64 m h).2.2
theorem bl_pos {m : Nat} (h0 : 0 < m) : 0 < Lib.bitLen m := by
  unfold Lib.bitLen Lib.bitLenAux; rw [if_neg (by omega)]; omega
end Go.Proofs.YtmjjodficjjehabGreatDoor.Bt
namespace Go.Proofs.YtmjjodficjjehabGreatDoor.Bt
open Go Go.RowKit Ff
def Tabs (w : World) : Prop := TabAt 1 Lib.deBruijn64tab w ∧ 1 < w.heap.size
theorem Tabs.below {w w' : World} (h : Tabs w) (hb : Below w.heap.size w w') : Tabs w' :=
  ⟨fun j hj => by rw [hb.cell (p := ⟨1, j, none⟩) h.2]; exact h.1 j hj, Nat.lt_of_lt_of_le h.2 hb.size⟩
@[irreducible] def frac (x : Nat) : Nat := rung x % 4503599627370496
@[irreducible] def pm (x : Nat) : Nat := if rung x < 4503599627370496 then rung x else 4503599627370496 + rung x % 4503599627370496
@[irreducible] def pex (x : Nat) : Int := if rung x < 4503599627370496 then -1074 else -1074 + ((rung x / 4503599627370496 - 1 : Nat) : Int)
def partM (x : Nat) : Nat := if rung x = 0 then 0 else od (pm x)
def partE (x : Nat) : Int := if rung x = 0 then 0 else pex x + tz (pm x)
theorem frac_eq (x : Nat) : frac x = rung x % 4503599627370496 := by unfold frac; rfl
theorem pm_sub {x : Nat} (h : rung x < 4503599627370496) : pm x = rung x := by unfold pm; rw [if_pos h]
theorem pm_nor {x : Nat} (h : ¬ rung x < 4503599627370496) : pm x = 4503599627370496 + frac x := by unfold pm; rw [if_neg h, frac_eq]
theorem pex_sub {x : Nat} (h : rung x < 4503599627370496) : pex x = -1074 := by unfold pex; rw [if_pos h]
theorem pex_nor {x : Nat} (h : ¬ rung x < 4503599627370496) : pex x = -1074 + ((rung x / 4503599627370496 - 1 : Nat) : Int) := by unfold pex; rw [if_neg h]
theorem pm_pos {x : Nat} (h : rung x ≠ 0) : 0 < pm x := by unfold pm; split <;> omega
theorem pm_lt (x : Nat) : pm x < 9007199254740992 := by unfold pm; split <;> omega
theorem frac_and (x : Nat) : bits BinOp.and IntKind.u64 (rung x : Int) 4503599627370495 = (frac x : Int) := by
  have := rung_lt x
  rw [show (4503599627370495 : Int) = ((4503599627370495 : Nat) : Int) from rfl, u64_and_nat (rung x) _ (by omega) (by decide), frac_eq]
  congr 1
  exact Nat.and_two_pow_sub_one_eq_mod (rung x) 52
theorem frac_or (x : Nat) (h : ¬ rung x < 4503599627370496) : bits BinOp.or IntKind.u64 (frac x : Int) 4503599627370496 = (pm x : Int) := by
  have := rung_lt x
  have hf : frac x < 4503599627370496 := by rw [frac_eq]; omega
  rw [show (4503599627370496 : Int) = ((4503599627370496 : Nat) : Int) from rfl, u64_or_nat (frac x) _ (by omega) (by decide), pm_nor h, Nat.or_comm]
  congr 1
  exact nat_join 52 _ _ (by decide) hf
theorem frac_sub {x : Nat} (h : rung x < 4503599627370496) : (frac x : Int) = (pm x : Int) := by rw [frac_eq, pm_sub h, Nat.mod_eq_of_lt h]
@[irreducible] def topB (x : Nat) : Nat := if sgn x then 9223372036854775808 else 0
theorem top_and (x : Nat) (hx : x < 18446744073709551616) : bits BinOp.and IntKind.u64 (x : Int) 9223372036854775808 = (topB x : Int) := by
  rw [and_top x hx]; unfold topB; split <;> rfl
theorem top_ne (x : Nat) : ((topB x : Int) != 0) = sgn x := by
  unfold topB; cases sgn x <;> rfl
theorem partM_shift {x : Nat} (h0 : rung x ≠ 0) : (pm x : Int) / 2 ^ min (Lib.ctz 64 (pm x)) 64 = partM x := by
  have h := tz_spec (pm_pos h0) (by have := pm_lt x; omega)
  have e : min (Lib.ctz 64 (pm x)) 64 = tz (pm x) := by have := h.2.2; unfold tz at this ⊢; omega
  rw [e]; unfold partM od; rw [if_neg h0]; norm_cast
theorem partM_od {x : Nat} (h0 : rung x ≠ 0) : partM x = od (pm x) := by unfold partM; rw [if_neg h0]
theorem partE_eq {x : Nat} (h0 : rung x ≠ 0) : partE x = pex x + Lib.ctz 64 (pm x) := by unfold partE tz; rw [if_neg h0]
theorem ctz_le {x : Nat} (h0 : rung x ≠ 0) : Lib.ctz 64 (pm x) < 64 := (tz_spec (pm_pos h0) (by have := pm_lt x; omega)).2.2
theorem Parts_no (x : Nat) (hx : x < 18446744073709551616) (hf : finB x = false) (w : World) :
    Calls Tryz.prog 25 #[.float .f64 x] w fun e w' => e = .returned (.tuple #[.bool false, .int .u64 0, .int .i64 0, .bool false]) ∧ w = w' := by
  go_enter Tryz.func25, Tryz.ntmps25
  go_wp2_with (go_at_call 56; refine (Finite_c _ hx _).mono ?_; rintro e w' ⟨rfl, rfl⟩)
  exact bodyPost_ret (by simp [results, Tryz.results25, go_sem]) rfl ⟨rfl, rfl⟩
theorem Parts_yes (x : Nat) (hx : x < 18446744073709551616) (hf : finB x = true) (w : World) (ht : Tabs w) :
    Calls Tryz.prog 25 #[.float .f64 x] w fun e w' => e = .returned (.tuple #[.bool (sgn x), .int .u64 (partM x), .int .i64 (partE x), .bool true]) ∧ w = w' := by
  have h44 := ext_bits
  have hb := and_not_top x hx
  have ha := top_and x hx
  have hs := top_ne x
  have h1 := frac_and x
  have hr := (finB_true x).1 hf
  by_cases h0 : rung x = 0
  · have hz : ((rung x : Int) == 0) = true := by rw [h0]; rfl
    have em : partM x = 0 := by unfold partM; rw [if_pos h0]
    have ee : partE x = 0 := by unfold partE; rw [if_pos h0]
    go_enter Tryz.func25, Tryz.ntmps25
    go_wp2_with (go_at_call 56; refine (Finite_c _ hx _).mono ?_; rintro e w' ⟨rfl, rfl⟩)
    exact bodyPost_ret (v := .tuple #[.bool (sgn x), .int .u64 (partM x), .int .i64 (partE x), .bool true]) (by simp [results, Tryz.results25, go_sem, em, ee]) rfl ⟨rfl, rfl⟩
  · have hz : ((rung x : Int) == 0) = false := by rw [beq_eq_false_iff_ne]; omega
    have hq := pm_lt x
    by_cases hn : rung x < 4503599627370496
    · have hd : ((rung x : Int) / 4503599627370496 != 0) = false := by rw [bne_eq_false_iff_eq]; omega
      have h2 := frac_sub hn
      go_enter Tryz.func25, Tryz.ntmps25
      go_wp2_with (first | (go_at_call 56; refine (Finite_c _ hx _).mono ?_; rintro e w' ⟨rfl, rfl⟩) | (go_at_call 57; refine (Tryz.bits_TrailingZeros64 _ (by omega) _ (fun _ => ht.1)).mono ?_; rintro e w' ⟨rfl, rfl⟩))
      refine bodyPost_ret (v := .tuple #[.bool (sgn x), .int .u64 (partM x), .int .i64 (partE x), .bool true]) ?_ rfl ⟨rfl, rfl⟩
      simp [results, Tryz.results25, go_sem]
      refine ⟨partM_shift h0, ?_⟩
      rw [partE_eq h0, pex_sub hn, IntWalk.wrap64_in]
      have := ctz_le h0; omega
    · have hd : ((rung x : Int) / 4503599627370496 != 0) = true := by rw [bne_iff_ne]; omega
      have h2 := frac_or x hn
      go_enter Tryz.func25, Tryz.ntmps25
      go_wp2_with (first | (go_at_call 56; refine (Finite_c _ hx _).mono ?_; rintro e w' ⟨rfl, rfl⟩) | (go_at_call 57; refine (Tryz.bits_TrailingZeros64 _ (by omega) _ (fun _ => ht.1)).mono ?_; rintro e w' ⟨rfl, rfl⟩))
      refine bodyPost_ret (v := .tuple #[.bool (sgn x), .int .u64 (partM x), .int .i64 (partE x), .bool true]) ?_ rfl ⟨rfl, rfl⟩
      simp [results, Tryz.results25, go_sem]
      refine ⟨partM_shift h0, ?_⟩
      rw [partE_eq h0, pex_nor hn, IntWalk.wrap64_in]
      · omega
      · have := ctz_le h0; omega
end Go.Proofs.YtmjjodficjjehabGreatDoor.Bt
namespace Go.Proofs.YtmjjodficjjehabGreatDoor
open Go Go.RowKit
/-! Plain functions on lists, straight by the recursor: the kernel runs them much faster. -/
section lists
variable {α β : Type}
noncomputable def getO (l : List α) : Nat → Option α := List.rec (motive := fun _ => Nat → Option α) (fun _ => none) (fun a _ ih n => Nat.rec (motive := fun _ => Option α) (some a) (fun m _ => ih m) n) l
theorem getO_eq : ∀ (l : List α) (n : Nat), getO l n = l[n]?
  | [], _ => rfl
  | _ :: _, 0 => rfl
  | _ :: l, n + 1 => (getO_eq l n).trans (by simp)
noncomputable def takeL (l : List α) : Nat → List α := List.rec (motive := fun _ => Nat → List α) (fun _ => []) (fun a _ ih n => Nat.rec (motive := fun _ => List α) [] (fun m _ => a :: ih m) n) l
theorem takeL_eq : ∀ (l : List α) (n : Nat), takeL l n = l.take n
  | [], n => by simp; rfl
  | _ :: _, 0 => rfl
  | a :: l, n + 1 => congrArg (a :: ·) (takeL_eq l n)
noncomputable def dropL (l : List α) : Nat → List α := List.rec (motive := fun _ => Nat → List α) (fun _ => []) (fun a r ih n => Nat.rec (motive := fun _ => List α) (a :: r) (fun m _ => ih m) n) l
theorem dropL_eq : ∀ (l : List α) (n : Nat), dropL l n = l.drop n
  | [], n => by simp; rfl
  | _ :: _, 0 => rfl
  | a :: l, n + 1 => dropL_eq l n
noncomputable def appL (l m : List α) : List α := List.rec (motive := fun _ => List α) m (fun a _ ih => a :: ih) l
theorem appL_eq : ∀ (l m : List α), appL l m = l ++ m
  | [], _ => rfl
  | a :: l, m => congrArg (a :: ·) (appL_eq l m)
noncomputable def lenL (l : List α) : Nat := List.rec (motive := fun _ => Nat) 0 (fun _ _ ih => Nat.succ ih) l
theorem lenL_eq : ∀ (l : List α), lenL l = l.length
  | [] => rfl
  | _ :: l => congrArg Nat.succ (lenL_eq l)
noncomputable def mapL (f : α → β) (l : List α) : List β := List.rec (motive := fun _ => List β) [] (fun a _ ih => f a :: ih) l
theorem mapL_eq (f : α → β) : ∀ (l : List α), mapL f l = l.map f
  | [] => rfl
  | a :: l => congrArg (f a :: ·) (mapL_eq f l)
noncomputable def allL (p : α → Bool) (l : List α) : Bool := List.rec (motive := fun _ => Bool) true (fun a _ ih => Bool.rec false ih (p a)) l
theorem allL_eq (p : α → Bool) : ∀ (l : List α), allL p l = l.all p
  | [] => rfl
  | a :: l => by
    rw [List.all_cons, ← allL_eq p l]
    show (Bool.rec (motive := fun _ => Bool) false (allL p l) (p a) : Bool) = _
    cases p a <;> rfl
noncomputable def forceN (n : Nat) (k : Nat → β) : β := Nat.rec (motive := fun _ => β) (k 0) (fun m _ => k (Nat.succ m)) n
theorem forceN_eq (n : Nat) (k : Nat → β) : forceN n k = k n := by cases n <;> rfl
noncomputable def forceI (n : Int) (k : Int → β) : β := Int.rec (motive := fun _ => β) (fun m => forceN m fun m => k (.ofNat m)) (fun m => forceN m fun m => k (.negSucc m)) n
theorem forceI_eq (n : Int) (k : Int → β) : forceI n k = k n := by
  cases n with
  | ofNat m => exact forceN_eq m fun m => k (.ofNat m)
  | negSucc m => exact forceN_eq m fun m => k (.negSucc m)
end lists
inductive AV where
  | lit (v : Value)
  | ptr (k off : Nat)
  | sl (k off len : Nat) (cap : Option Nat) (sz : Nat)
  | emp
  | agg (vs : List AV)
  | tup (vs : List AV)
  | ifc (t : TypeId) (v : AV)
  | fn (f : Fn) (first captured : List AV)
  | sym (i : Nat)
  | row (n off : Nat) (cells : List AV)
  deriving Inhabited
inductive Tr where
  | lf
  | nd (v : AV) (l r : Tr)
structure Fr where
  n : Nat
  t : Tr
noncomputable def trGet (t : Tr) : Nat → AV := Tr.rec (motive := fun _ => Nat → AV) (fun _ => .lit undef) (fun v _ _ ihl ihr i => Bool.rec (Bool.rec (ihr (i / 2 - 1)) (ihl (i / 2)) (Nat.beq (i % 2) 1)) v (Nat.beq i 0)) t
noncomputable def trSet (v : AV) (t : Tr) : Nat → Tr := Tr.rec (motive := fun _ => Nat → Tr) (fun _ => .lf) (fun u l r ihl ihr i => Bool.rec (Bool.rec (.nd u l (ihr (i / 2 - 1))) (.nd u (ihl (i / 2)) r) (Nat.beq (i % 2) 1)) (.nd v l r) (Nat.beq i 0)) t
noncomputable def trFull (d : Nat) : Tr := Nat.rec (motive := fun _ => Tr) .lf (fun _ t => .nd (.lit undef) t t) d
noncomputable def trInit (l : List AV) : Nat → Tr → Tr := List.rec (motive := fun _ => Nat → Tr → Tr) (fun _ t => t) (fun v _ ih i t => ih (i + 1) (trSet v t i)) l
noncomputable def getF (f : Fr) (i : Nat) : AV := Fr.rec (motive := fun _ => AV) (fun n t => Bool.rec (.lit undef) (trGet t i) (Nat.blt i n)) f
noncomputable def setF (v : AV) (f : Fr) (i : Nat) : Fr := Fr.rec (motive := fun _ => Fr) (fun n t => Bool.rec ⟨n, t⟩ ⟨n, trSet v t i⟩ (Nat.blt i n)) f
noncomputable def forceF {β : Type} (f : Fr) (k : Fr → β) : β := Fr.rec (motive := fun _ => β) (fun n t => Tr.rec (motive := fun _ => β) (k ⟨n, .lf⟩) (fun v l r _ _ => k ⟨n, .nd v l r⟩) t) f
theorem forceF_eq {β : Type} (f : Fr) (k : Fr → β) : forceF f k = k f := by
  cases f with
  | mk n t => cases t <;> rfl
structure AS where
  n : Nat
  h : List (Nat × List AV)
  wr : List Nat
  gl : List (Nat × List AV)
noncomputable def hasN (l : List Nat) (k : Nat) : Bool := List.rec (motive := fun _ => Bool) false (fun a _ ih => Bool.rec ih true (Nat.beq a k)) l
noncomputable def addW (k : Nat) (l : List Nat) : List Nat := match hasN l k with
  | true => l
  | false => k :: l
noncomputable def unionW (l m : List Nat) : List Nat := List.rec (motive := fun _ => List Nat) m (fun a _ ih => addW a ih) l
noncomputable def oldW (n : Nat) (l : List Nat) : List Nat := List.rec (motive := fun _ => List Nat) [] (fun a _ ih => Bool.rec (a :: ih) ih (Nat.ble n a)) l
noncomputable def look (k : Nat) (h : List (Nat × List AV)) : Option (List AV) :=
  List.rec (motive := fun _ => Option (List AV)) none (fun p _ ih => Bool.rec ih (some p.2) (Nat.beq p.1 k)) h
theorem look_cons (k : Nat) (p : Nat × List AV) (h : List (Nat × List AV)) : look k (p :: h) = if p.1 = k then some p.2 else look k h := by
  show (Bool.rec (look k h) (some p.2) (Nat.beq p.1 k) : Option (List AV)) = _
  cases hb : Nat.beq p.1 k with
  | true => rw [if_pos (Nat.eq_of_beq_eq_true hb)]
  | false => rw [if_neg (Nat.ne_of_beq_eq_false hb)]
noncomputable def upd (k : Nat) (b : List AV) (h : List (Nat × List AV)) : List (Nat × List AV) :=
  List.rec (motive := fun _ => List (Nat × List AV)) [] (fun p r ih => Bool.rec (p :: ih) ((p.1, b) :: r) (Nat.beq p.1 k)) h
noncomputable def kill (k : Nat) (h : List (Nat × List AV)) : List (Nat × List AV) :=
  List.rec (motive := fun _ => List (Nat × List AV)) [] (fun p _ ih => Bool.rec (p :: ih) ih (Nat.beq p.1 k)) h
noncomputable def dropNew (n : Nat) (h : List (Nat × List AV)) : List (Nat × List AV) :=
  List.rec (motive := fun _ => List (Nat × List AV)) [] (fun p _ ih => Bool.rec (p :: ih) ih (Nat.ble n p.1)) h
noncomputable def litOf2 (v : AV) (l : Option (List Value)) : Option (List Value) := match v, l with
  | .lit v, some l => some (v :: l)
  | _, _ => none
noncomputable def lits (l : List AV) : Option (List Value) := List.rec (motive := fun _ => Option (List Value)) (some []) (fun v _ ih => litOf2 v ih) l
noncomputable def mkAgg (vs : List AV) : AV := match lits vs with
  | some l => .lit (.agg l.toArray)
  | none => .agg vs
noncomputable def mkTup (vs : List AV) : AV := match lits vs with
  | some l => .lit (.tuple l.toArray)
  | none => .tup vs
noncomputable def AV.cells : AV → List AV
  | .agg vs => vs
  | .lit (.agg cs) => mapL .lit cs.toList
  | v => [v]
noncomputable def AV.one : AV → Bool
  | .agg _ | .tup _ => false
  | .lit (.agg _) | .lit (.tuple _) => false
  | _ => true
noncomputable def opnd (f : Fr) : Operand → AV
  | .tmp t => getF f t
  | .const v => .lit v
  | .global g => .lit (.pointer (some ⟨g, 0, none⟩))
  | .func k => .lit (.func (.func k) #[] #[])
noncomputable def val : AV → Value
  | .lit v => v
  | _ => undef
noncomputable def isLit : AV → Bool
  | .lit _ => true
  | _ => false
noncomputable def runPure (P : Program) {α : Type} : Sem α → Option α
  | .pure a => some a
  | .program k => runPure P (k P)
  | .mark _ k => runPure P k
  | _ => none
noncomputable def noSel : Op → Bool
  | .select .. => false
  | _ => true
noncomputable def evalPure (P : Program) (f : Fr) (o : Oper) : Option Next :=
  match noSel o.op && allL (fun x => isLit (opnd f x)) o.op.operands.toList with
  | true => runPure P (execOp (fun x => val (opnd f x)) o)
  | false => none
noncomputable def isRowT (P : Program) (t : TypeId) : Option Bool := match P.underlying t with
  | some (.struct _) | some (.array _ _) => some true
  | some _ => some false
  | none => none
noncomputable def sizeT (P : Program) (t : TypeId) : Option Nat := (P.info? t).map (·.size)
noncomputable def partOf (P : Program) (t : TypeId) (cs : List AV) (off : Nat) : Option AV :=
  match isRowT P t, sizeT P t with
  | some true, some n => match Nat.ble (off + n) (lenL cs) with
    | true => some (mkAgg (takeL (dropL cs off) n))
    | false => none
  | some false, some _ => getO cs off
  | _, _ => none
noncomputable def bound (d : Nat) : Option AV → Option Nat
  | none => some d
  | some (.lit (.int _ (.ofNat n))) => some n
  | some _ => none
noncomputable def bounds3 (len cap : Nat) (lo hi mx : Option AV) : Option (Nat × Nat × Nat) :=
  match hi, mx with
  | none, some _ => none
  | _, _ => match bound 0 lo, bound len hi, bound cap mx with
    | some l, some h, some m => match Nat.ble l h && (Nat.ble h m && Nat.ble m cap) with
      | true => some (l, h, m)
      | false => none
    | _, _, _ => none
noncomputable def cutSl (k off n l h m : Nat) : AV := match Nat.beq m l with
  | true => .sl k off (h - l) (some (m - l)) 0
  | false => .sl k (off + l * n) (h - l) (some (m - l)) 0
noncomputable def zeros (z : Array Value) (n : Nat) : List AV := mapL (fun i => .lit (z[i % z.size]!)) (List.range n)
noncomputable def newB (s : AS) (b : List AV) : AS := ⟨s.n + 1, (s.n, b) :: s.h, s.wr, s.gl⟩
noncomputable def fillA (place : Nat → Option (Nat × Nat)) (cells : List AV) : List (Nat × AV) → Option (List AV)
  | [] => some cells
  | (i, v) :: rest =>
    match place i with
    | none => none
    | some (off, size) => match Nat.beq (lenL v.cells) size && Nat.ble (off + lenL v.cells) (lenL cells) with
      | true => fillA place (appL (takeL cells off) (appL v.cells (dropL cells (off + lenL v.cells)))) rest
      | false => none
noncomputable def firstA (s : AS) (size n : Nat) : AV → Option (List AV)
  | .lit (.slice none _ _) => some []
  | .lit (.string b) => match Nat.ble n b.size with
    | true => some (mapL (fun x => .lit (.int .u8 x.toNat)) (takeL b.data.toList n))
    | false => none
  | .sl k off _ _ _ => match look k s.h with
    | some b => match Nat.ble (off + n * size) (lenL b) with
      | true => some (takeL (dropL b off) (n * size))
      | false => none
    | none => none
  | _ => none
noncomputable def lenOfSlice : AV → Option Nat
  | .lit (.slice none n _) => some n
  | .lit (.string b) => some b.size
  | .sl _ _ len _ _ => some len
  | .emp => some 0
  | _ => none
noncomputable def bytesOf : List AV → Option (List UInt8)
  | [] => some []
  | .lit (.int .u8 (.ofNat n)) :: r => match bytesOf r with
    | some l => some (UInt8.ofNat n :: l)
    | none => none
  | _ :: _ => none
abbrev CallE := Nat → FuncId → List AV → AS → Option (AV × AS)
noncomputable def appendTo (floor size : Nat) (x : AV) (new : List AV) (n : Nat) (s : AS) : Option (AV × AS) :=
  match x with
  | .lit (.slice none 0 0) => match Nat.beq n 0, Nat.ble n 1000000 with
    | true, _ => some (x, s)
    | false, true => some (.sl s.n 0 n none size, newB s new)
    | _, _ => none
  | .sl k off len none sz => match look k s.h, Nat.beq off 0 && (Nat.ble floor k && (Nat.beq sz size && Nat.ble (len + n) 1000000)) with
    | some b, true => match Nat.beq n 0, Nat.ble (len * size) (lenL b) with
      | true, _ => some (x, s)
      | false, true => some (.sl s.n 0 (len + n) none size, newB ⟨s.n, kill k s.h, addW k s.wr, s.gl⟩ (appL (takeL b (len * size)) new))
      | _, _ => none
    | _, _ => none
  | .sl k off len (some c) _ => match Nat.ble (len + n) c with
    | true => match look k s.h, Nat.ble floor k with
      | some b, true => match Nat.ble (off + (len + n) * size) (lenL b) with
        | true => some (.sl k off (len + n) (some c) 0, ⟨s.n, upd k (appL (takeL b (off + len * size)) (appL new (dropL b (off + (len + n) * size)))) s.h, addW k s.wr, s.gl⟩)
        | false => none
      | _, _ => none
    | false => match firstA s size len x, Nat.ble (len + n) 1000000 with
      | some old, true => some (.sl s.n 0 (len + n) none size, newB s (appL old new))
      | _, _ => none
  | _ => none
noncomputable def evalAppend (P : Program) (floor : Nat) (t u : TypeId) (x y : AV) (s : AS) : Option (AV × AS) :=
  match P.underlying t, P.underlying u with
  | some (.slice e), some (.slice _) | some (.slice e), some .string => match P.info? e with
    | some i => match i.zero, firstA s i.size ((lenOfSlice y).getD 0) y, lenOfSlice y with
      | some z, some new, some n => match Nat.beq z.cells.size i.size && (Nat.ble i.bytes 10000000 && (Nat.beq (lenL new) (n * i.size) && allL (·.one) new)) with
        | true => appendTo floor i.size x new n s
        | false => none
      | _, _, _ => none
    | none => none
  | _, _ => none
noncomputable def placeF (P : Program) (fs : Array Field) (j : Nat) : Option (Nat × Nat) := match fs[j]? with
  | some fd => (sizeT P fd.type).map (fd.offset, ·)
  | none => none
noncomputable def wlPick (f : Fr) (c a b : Operand) : Option AV := match opnd f c with
    | .lit (.bool true) => some (opnd f a)
    | .lit (.bool false) => some (opnd f b)
    | _ => none
noncomputable def wlExtract (f : Fr) (t : Operand) (i : Nat) : Option AV := match opnd f t with
    | .tup vs => (vs[i]?)
    | .lit (.tuple vs) => (vs[i]?).map .lit
    | _ => none
noncomputable def wlNil (f : Fr) (x : Operand) : Option AV := match opnd f x with
    | .ptr k off => some (.ptr k off)
    | _ => none
noncomputable def wlFieldAddr (P : Program) (f : Fr) (t : TypeId) (x : Operand) (i : Nat) : Option AV := match opnd f x with
    | .ptr k off => match P.underlying t with
      | some (.struct fs) => match fs[i]? with
        | some fd => match sizeT P fd.type with
          | some (_ + 1) => some (.ptr k (off + fd.offset))
          | _ => none
        | none => none
      | _ => none
    | _ => none
noncomputable def wlField (P : Program) (f : Fr) (t : TypeId) (x : Operand) (i : Nat) : Option AV := match opnd f x with
    | .agg vs => match P.underlying t with
      | some (.struct fs) => match fs[i]? with
        | some fd => (partOf P fd.type vs fd.offset)
        | none => none
      | _ => none
    | _ => none
noncomputable def wlIndexAddr (P : Program) (f : Fr) (t : TypeId) (x ix : Operand) : Option AV := match opnd f ix, opnd f x with
    | .lit (.int _ (.ofNat i)), .sl k off len _ _ => match P.underlying t with
      | some (.slice e) => match Nat.blt i len, sizeT P e with
        | true, some n => some (.ptr k (off + i * n))
        | _, _ => none
      | _ => none
    | .lit (.int _ (.ofNat i)), .ptr k off => match P.underlying t with
      | some (.array len e) => match Nat.blt i len, sizeT P e with
        | true, some n => some (.ptr k (off + i * n))
        | _, _ => none
      | _ => none
    | _, _ => none
noncomputable def wlSlice (P : Program) (f : Fr) (t : TypeId) (x : Operand) (lo hi mx : Option Operand) : Option AV := match opnd f x with
    | .sl k off len cap sz => match P.underlying t with
      | some (.slice e) => match sizeT P e, cap with
        | some n, some c => match bounds3 len c (lo.map (opnd f)) (hi.map (opnd f)) (mx.map (opnd f)) with
          | some (l, h, m) => some (cutSl k off n l h m)
          | none => none
        | some n, none => match mx with
          | some _ => none
          | none => match bounds3 len len (lo.map (opnd f)) (hi.map (opnd f)) none with
            | some (l, h, _) => match Nat.beq l 0 with
              | true => some (.sl k off h none sz)
              | false => match Nat.blt l len && Nat.beq sz n with
                | true => some (.sl k (off + l * n) (h - l) none sz)
                | false => none
            | none => none
        | _, _ => none
      | _ => none
    | .ptr k off => match P.underlying t with
      | some (.array c e) => match sizeT P e, bounds3 c c (lo.map (opnd f)) (hi.map (opnd f)) (mx.map (opnd f)) with
        | some n, some (l, h, m) => some (cutSl k off n l h m)
        | _, _ => none
      | _ => none
    | _ => none
noncomputable def wlMakeFunc (f : Fr) (fn : Fn) (a b : Array Operand) : Option AV := match allL (fun x => isLit (opnd f x)) a.toList && allL (fun x => isLit (opnd f x)) b.toList with
    | true => none
    | false => some (.fn fn (mapL (opnd f) a.toList) (mapL (opnd f) b.toList))
noncomputable def wlIface (P : Program) (f : Fr) (t : TypeId) (x : Operand) : Option AV := match opnd f x with
    | .lit _ => none
    | v => match P.underlying t with
      | some (.interface _) => none
      | some _ => some (.ifc t v)
      | none => none
noncomputable def wlBin (P : Program) (f : Fr) (op : BinOp) (t : TypeId) (x y : Operand) : Option AV := match opnd f x, opnd f y with
    | .ptr _ _, .lit (.pointer none) | .lit (.pointer none), .ptr _ _ => match P.underlying t, op with
      | some (.pointer _), .eql => some (.lit (.bool false))
      | some (.pointer _), .neq => some (.lit (.bool true))
      | _, _ => none
    | .sl _ _ _ _ _, .lit (.slice none _ _) | .lit (.slice none _ _), .sl _ _ _ _ _ => match P.underlying t, op with
      | some (.slice _), .eql => some (.lit (.bool false))
      | some (.slice _), .neq => some (.lit (.bool true))
      | _, _ => none
    | .fn _ _ _, .lit .nilFunc | .lit .nilFunc, .fn _ _ _ => match P.underlying t, op with
      | some (.func _ _ _), .eql => some (.lit (.bool false))
      | some (.func _ _ _), .neq => some (.lit (.bool true))
      | _, _ => none
    | _, _ => none
noncomputable def wlBuild (P : Program) (f : Fr) (t : TypeId) (ps : Array (Nat × Operand)) : Option AV := match allL (fun p => isLit (opnd f p.2)) ps.toList with
    | true => none
    | false => match P.info? t with
      | some i => match i.zero, P.underlying t with
        | some z, some (.struct fs) => match allL (fun fd => (sizeT P fd.type).isSome) fs.toList with
          | true => (fillA (placeF P fs) (mapL .lit z.cells.toList) (mapL (fun p => (p.1, opnd f p.2)) ps.toList)).map mkAgg
          | false => none
        | some z, some (.array _ e) => match sizeT P e with
          | some n => (fillA (fun j => some (j * n, n)) (mapL .lit z.cells.toList) (mapL (fun p => (p.1, opnd f p.2)) ps.toList)).map (mkAgg ·)
          | none => none
        | _, _ => none
      | none => none
noncomputable def wlLen (P : Program) (f : Fr) (args : Array Operand) (argTypes : Array TypeId) : Option AV := match args.toList, argTypes.toList with
    | [x], [t] => match opnd f x, P.underlying t with
      | .sl _ _ len _ _, some (.slice _) => some (.lit (goInt len))
      | .emp, some (.slice _) => some (.lit (goInt 0))
      | _, _ => none
    | _, _ => none
noncomputable def evalWl0 (P : Program) (f : Fr) (o : Oper) : Option AV :=
  match o.op with
  | .move x | .assign x => some (opnd f x)
  | .pick c a b => wlPick f c a b
  | .extract t i => wlExtract f t i
  | .nilCheck x => wlNil f x
  | .fieldAddr t x i => wlFieldAddr P f t x i
  | .field t x i => wlField P f t x i
  | .indexAddr t x ix => wlIndexAddr P f t x ix
  | .slice t x lo hi mx => wlSlice P f t x lo hi mx
  | .makeFunc fn a b => wlMakeFunc f fn a b
  | .makeInterface t x => wlIface P f t x
  | .binOp op t x y _ => wlBin P f op t x y
  | .build t ps => wlBuild P f t ps
  | .call { callee := .builtin .len, args, argTypes } => wlLen P f args argTypes
  | _ => none
noncomputable def fastInt (op : BinOp) (k k' : IntKind) (a b : Int) : Option Value :=
  match op with
  | .shl => match Int.decLt b 0 with
    | .isTrue _ => none
    | .isFalse _ => forceI (k.wrap (a * 2 ^ (min b.toNat k.bits))) fun z => some (.int k z)
  | .shr => match Int.decLt b 0 with
    | .isTrue _ => none
    | .isFalse _ => forceI (a.fdiv (2 ^ (min b.toNat k.bits))) fun z => some (.int k z)
  | _ => match decEq k k' with
    | .isFalse _ => none
    | .isTrue _ => match op with
      | .add => forceI (k.wrap (a + b)) fun z => some (.int k z)
      | .sub => forceI (k.wrap (a - b)) fun z => some (.int k z)
      | .mul => forceI (k.wrap (a * b)) fun z => some (.int k z)
      | .quo => match b with
        | .ofNat 0 => none
        | _ => forceI (k.wrap (a.tdiv b)) fun z => some (.int k z)
      | .rem => match b with
        | .ofNat 0 => none
        | _ => forceI (a.tmod b) fun z => some (.int k z)
      | .and => forceN ((BitVec.ofInt k.bits a).toNat &&& (BitVec.ofInt k.bits b).toNat) fun n => forceI (k.wrap n) fun z => some (.int k z)
      | .or => forceN ((BitVec.ofInt k.bits a).toNat ||| (BitVec.ofInt k.bits b).toNat) fun n => forceI (k.wrap n) fun z => some (.int k z)
      | .eql => some (.bool (a == b))
      | .neq => some (.bool (a != b))
      | .lss => some (.bool (a < b))
      | .leq => some (.bool (a ≤ b))
      | .gtr => some (.bool (a > b))
      | .geq => some (.bool (a ≥ b))
      | _ => none
noncomputable def fwBin (f : Fr) (op : BinOp) (x y : Operand) : Option AV := match opnd f x, opnd f y with
    | .lit (.int k a), .lit (.int k' b) => match fastInt op k k' a b with
      | some v => some (.lit v)
      | none => none
    | _, _ => none
noncomputable def fwConv (P : Program) (f : Fr) (src dst : TypeId) (x : Operand) : Option AV := match opnd f x with
    | .lit (.int _ n) => match P.underlying src, P.underlying dst with
      | some _, some (.int k) => forceI (k.wrap n) fun z => some (.lit (.int k z))
      | _, _ => none
    | _ => none
noncomputable def fwIndex (P : Program) (f : Fr) (t : TypeId) (x ix : Operand) : Option AV := match opnd f x, opnd f ix with
    | .lit (.string s), .lit (.int _ (.ofNat i)) => match P.underlying t with
      | some .string => match getO s.data.toList i with
        | some b => forceN b.toNat fun n => some (.lit (.int .u8 (.ofNat n)))
        | none => none
      | _ => none
    | _, _ => none
noncomputable def fwLen (P : Program) (f : Fr) (args : Array Operand) (argTypes : Array TypeId) : Option AV := match args.toList, argTypes.toList with
    | [x], [t] => match opnd f x, P.underlying t with
      | .lit (.string s), some .string => forceN s.size fun n => some (.lit (.int .i64 (.ofNat n)))
      | _, _ => none
    | _, _ => none
noncomputable def fastWl (P : Program) (f : Fr) (o : Oper) : Option AV :=
  match o.op with
  | .binOp op _ x y _ => fwBin f op x y
  | .convert src dst x => fwConv P f src dst x
  | .index t x ix => fwIndex P f t x ix
  | .call { callee := .builtin .len, args, argTypes } => fwLen P f args argTypes
  | _ => none
/-! What is known ahead, of operations and of calls, at values that are letters (sym): a table, looked up. -/
noncomputable def eqL {α : Type} (eq : α → α → Bool) (l : List α) : List α → Bool := List.rec (motive := fun _ => List α → Bool) (fun m => List.rec (motive := fun _ => Bool) true (fun _ _ _ => false) m) (fun a _ ih m => List.rec (motive := fun _ => Bool) false (fun b r _ => Bool.rec false (ih r) (eq a b)) m) l
noncomputable def bytesL (b : ByteArray) : List Nat := mapL (fun x => x.toNat) b.data.toList
noncomputable def eqV1 : Value → Value → Bool
  | .bool a, .bool b => a == b
  | .int k a, .int k' b => decide (k = k') && decide (a = b)
  | .float k a, .float k' b => decide (k = k') && Nat.beq a b
  | .complex k a c, .complex k' b d => decide (k = k') && (Nat.beq a b && Nat.beq c d)
  | .string a, .string b => eqL Nat.beq (bytesL a) (bytesL b)
  | _, _ => false
noncomputable def eqV : Value → Value → Bool
  | .agg a, .agg b => eqL eqV1 a.toList b.toList
  | a, b => eqV1 a b
noncomputable def eqA1 : AV → AV → Bool
  | .lit a, .lit b => eqV a b
  | .sym i, .sym j => Nat.beq i j
  | _, _ => false
noncomputable def eqA : AV → AV → Bool
  | .agg a, .agg b => eqL eqA1 a b
  | .row n o a, .row m p b => Nat.beq n m && (Nat.beq o p && eqL eqA1 a b)
  | a, b => eqA1 a b
noncomputable def ground1 : AV → Bool
  | .lit _ | .sym _ => true
  | _ => false
noncomputable def ground2 : AV → Bool
  | .agg a => allL ground1 a
  | a => ground1 a
noncomputable def ground : AV → Bool
  | .tup a => allL ground2 a
  | a => ground2 a
noncomputable def groundA : AV → Bool
  | .row _ _ a => allL ground1 a
  | a => ground a
noncomputable def flat1 (s : AS) : AV → AV
  | .sl k off len c sz => match look k s.h with
    | some b => .row len off (dropL b off)
    | none => .sl k off len c sz
  | v => v
noncomputable def binKey : BinOp → Nat
  | .add => 0 | .sub => 1 | .mul => 2 | .quo => 3 | .rem => 4 | .and => 5 | .or => 6 | .xor => 7 | .shl => 8 | .shr => 9 | .andNot => 10
  | .eql => 11 | .neq => 12 | .lss => 13 | .leq => 14 | .gtr => 15 | .geq => 16
noncomputable def unKey : UnOp → Nat
  | .neg => 0 | .xor => 1 | .not => 2 | .plus => 3
noncomputable def biKey : Builtin → Option Nat
  | .len => some 0 | .real => some 1 | .imag => some 2 | .complex => some 3
  | _ => none
noncomputable def keyOf (o : Oper) : Option (List Nat × List Operand) := match o.op with
  | .binOp op t x y _ => some ([0, binKey op, t], [x, y])
  | .unOp op t x => some ([1, unKey op, t], [x])
  | .convert src dst x => some ([2, src, dst], [x])
  | .index t x ix => some ([3, t], [x, ix])
  | .slice t x (some lo) none none => some ([4, t], [x, lo])
  | .slice t x none (some hi) none => some ([5, t], [x, hi])
  | .call { callee := .builtin b, args, argTypes } => match biKey b with
    | some k => some (6 :: k :: o.type :: argTypes.toList, args.toList)
    | none => none
  | .call { callee := .value (.func g), args, .. } => some ([7, g], args.toList)
  | _ => none
class Know where
  ops : List (List Nat × List AV × AV)
  calls : List (FuncId × List AV × AV)
noncomputable def findK (k : List Nat) (l : List AV) (t : List (List Nat × List AV × AV)) : Option AV := List.rec (motive := fun _ => Option AV) none (fun p _ ih => match eqL Nat.beq k p.1 with
  | true => match eqL eqA l p.2.1 with
    | true => some p.2.2
    | false => ih
  | false => ih) t
noncomputable def findC (g : FuncId) (l : List AV) (t : List (FuncId × List AV × AV)) : Option AV := List.rec (motive := fun _ => Option AV) none (fun p _ ih => match Nat.beq g p.1 with
  | true => match eqL eqA l p.2.1 with
    | true => some p.2.2
    | false => ih
  | false => ih) t
noncomputable def knowOp [Know] (f : Fr) (o : Oper) : Option AV := match keyOf o with
  | some (k, xs) => findK k (mapL (opnd f) xs) Know.ops
  | none => none
noncomputable def knowCall [Know] (call : CallE) : CallE := fun floor g l s => match findC g (mapL (flat1 s) l) Know.calls with
  | some r => some (r, s)
  | none => call floor g l s
noncomputable def evalWl [Know] (P : Program) (f : Fr) (o : Oper) : Option AV :=
  match fastWl P f o with
  | some v => some v
  | none => match evalWl0 P f o with
    | some v => some v
    | none => match evalPure P f o with
      | some (.value v) => some (.lit v)
      | _ => knowOp f o
noncomputable def memLoad (P : Program) (f : Fr) (t : TypeId) (a : Operand) (s : AS) : Option (AV × AS) := match opnd f a with
    | .ptr k off => match look k s.h with
      | some b => (partOf P t b off).map (·, s)
      | none => none
    | .lit (.pointer (some ⟨g, off, none⟩)) => match look g s.gl, isRowT P t with
      | some b, some false => match getO b off with
        | some v => some (v, s)
        | none => none
      | _, _ => none
    | _ => none
noncomputable def memStore (P : Program) (floor : Nat) (f : Fr) (t : TypeId) (a x : Operand) (s : AS) : Option (AV × AS) := match opnd f a with
    | .ptr k off => match look k s.h, Nat.ble floor k, sizeT P t with
      | some b, true, some n =>
        let cs := (opnd f x).cells
        match Nat.beq (lenL cs) n && (Nat.ble (off + n) (lenL b) && allL (·.one) cs) with
        | true => some (.lit undef, ⟨s.n, upd k (appL (takeL b off) (appL cs (dropL b (off + n)))) s.h, addW k s.wr, s.gl⟩)
        | false => none
      | _, _, _ => none
    | _ => none
noncomputable def memAlloc (P : Program) (t : TypeId) (s : AS) : Option (AV × AS) := match P.info? t with
    | some i => match i.zero with
      | some z => some (.ptr s.n 0, newB s (mapL .lit z.cells.toList))
      | none => none
    | none => none
noncomputable def memMake (P : Program) (f : Fr) (t : TypeId) (l c : Operand) (s : AS) : Option (AV × AS) := match opnd f l, opnd f c with
    | .lit (.int _ (.ofNat l)), .lit (.int _ (.ofNat c)) => match P.underlying t with
      | some (.slice e) => match P.info? e with
        | some i => match i.zero with
          | some z => match Nat.ble l c && (Nat.ble c 1000000 && Nat.ble i.bytes 100000000) with
            | true => some (.sl s.n 0 l (some c) 0, newB s (zeros z.cells (c * i.size)))
            | false => none
          | none => none
        | none => none
      | _ => none
    | _, _ => none
noncomputable def memBuild (P : Program) (f : Fr) (t : TypeId) (len : Nat) (ps : Array (Nat × Operand)) (s : AS) : Option (AV × AS) := match P.underlying t with
    | some (.slice e) => match P.info? e with
      | some i => match i.zero with
        | some z => match Nat.ble (len * i.size) 16777216 with
          | true => match fillA (fun j => some (j * i.size, i.size)) (zeros z.cells (len * i.size)) (mapL (fun p => (p.1, opnd f p.2)) ps.toList) with
            | some cs => some (.sl s.n 0 len (some len) 0, newB s cs)
            | none => none
          | false => none
        | none => none
      | none => none
    | _ => none
noncomputable def memConv (P : Program) (f : Fr) (src dst : TypeId) (x : Operand) (s : AS) : Option (AV × AS) := match opnd f x with
    | .sl k off len cap sz => match P.underlying src, P.underlying dst with
      | some (.slice e), some .string => match P.underlying e with
        | some (.int .u8) => match (firstA s 1 len (.sl k off len cap sz)).bind bytesOf with
          | some l => some (.lit (.string ⟨l.toArray⟩), s)
          | none => none
        | _ => none
      | _, _ => none
    | .lit (.string b) => match P.underlying src, P.underlying dst with
      | some .string, some (.slice e) => match P.underlying e with
        | some (.int .u8) => some (.sl s.n 0 b.size none 1, newB s (mapL (fun x => .lit (.int .u8 x.toNat)) b.data.toList))
        | _ => none
      | _, _ => none
    | _ => none
noncomputable def memApp (P : Program) (floor : Nat) (f : Fr) (args : Array Operand) (argTypes : Array TypeId) (s : AS) : Option (AV × AS) := match args.toList, argTypes.toList with
    | [x, y], [t, u] => evalAppend P floor t u (opnd f x) (opnd f y) s
    | _, _ => none
noncomputable def memCopy (P : Program) (floor : Nat) (f : Fr) (args : Array Operand) (argTypes : Array TypeId) (s : AS) : Option (AV × AS) := match args.toList, argTypes.toList with
    | [x, y], [t, _] => match P.underlying t with
      | some (.slice e) => match sizeT P e, opnd f x, lenOfSlice (opnd f y) with
        | some size, .sl k off len _ _, some m => match look k s.h, Nat.ble floor k, firstA s size (Nat.min m len) (opnd f y) with
          | some b, true, some src => match Nat.ble (off + lenL src) (lenL b) && allL (·.one) src with
            | true => some (.lit (goInt (Nat.min m len)), ⟨s.n, upd k (appL (takeL b off) (appL src (dropL b (off + lenL src)))) s.h, addW k s.wr, s.gl⟩)
            | false => none
          | _, _, _ => none
        | _, _, _ => none
      | _ => none
    | _, _ => none
noncomputable def evalMem (P : Program) (floor : Nat) (f : Fr) (o : Oper) (s : AS) : Option (AV × AS) :=
  match o.op with
  | .load t a => memLoad P f t a s
  | .store t a x => memStore P floor f t a x s
  | .alloc t => memAlloc P t s
  | .box t x => some (.ptr s.n 0, newB s ((opnd f x).cells))
  | .makeSlice t l c => memMake P f t l c s
  | .buildSlice t len ps => memBuild P f t len ps s
  | .convert src dst x => memConv P f src dst x s
  | .call { callee := .builtin .append, args, argTypes } => memApp P floor f args argTypes s
  | .call { callee := .builtin .copy, args, argTypes } => memCopy P floor f args argTypes s
  | _ => none
noncomputable def entered (P : Program) (g : FuncId) : Bool := match P.funcs[g]? with
  | some fn => fn.body.isSome && !(fn.name == "runtime.NumGoroutine")
  | none => false
noncomputable def calleeOf : AV → Option (FuncId × List AV × List AV)
  | .lit (.func (.func g) a b) => some (g, mapL .lit a.toList, mapL .lit b.toList)
  | .fn (.func g) a b => some (g, a, b)
  | _ => none
noncomputable def methodOf (P : Program) (x : AV) (name : String) (args : List AV) : Option (FuncId × List AV) := match x with
  | .lit (.iface t v) => match runPure P (method (P.types.size + Made.depth) t v name) with
    | some (g, r) => match entered P g with
      | true => some (g, .lit r :: args)
      | false => none
    | none => none
  | _ => none
noncomputable def callOf (P : Program) (f : Fr) (o : Oper) : Option (FuncId × List AV) :=
  match o.op with
  | .call { callee := .value x, args, .. } => match calleeOf (opnd f x) with
    | some (g, a, b) => match entered P g with
      | true => some (g, appL a (appL (mapL (opnd f) args.toList) b))
      | false => none
    | none => none
  | .call { callee := .invoke x name, args, .. } => methodOf P (opnd f x) name (mapL (opnd f) args.toList)
  | _ => none
noncomputable def evalOp0 [Know] (P : Program) (call : CallE) (floor : Nat) (f : Fr) (o : Oper) (s : AS) : Option (AV × AS) :=
  match callOf P f o with
  | some (g, l) => call floor g l s
  | none => match evalMem P floor f o s with
    | some r => some r
    | none => match evalWl P f o with
      | some v => some (v, s)
      | none => none
noncomputable def pureOp [Know] (P : Program) (f : Fr) (o : Oper) (s : AS) : Option (AV × AS) := match evalPure P f o with
  | some (.value v) => some (.lit v, s)
  | _ => match knowOp f o with
    | some v => some (v, s)
    | none => none
noncomputable def orMem (r d : Option (AV × AS)) : Option (AV × AS) := Option.rec (motive := fun _ => Option (AV × AS)) d (fun x => some x) r
noncomputable def orWl (r : Option AV) (s : AS) (d : Option (AV × AS)) : Option (AV × AS) := Option.rec (motive := fun _ => Option (AV × AS)) d (fun v => some (v, s)) r
structure OpF where
  fn : CallE → Nat → Fr → AS → Option (AV × AS)
noncomputable def callOp [Know] (P : Program) (x : Operand) (args : List Operand) (call : CallE) (floor : Nat) (f : Fr) (o : Oper) (s : AS) : Option (AV × AS) := match calleeOf (opnd f x) with
  | some (g, a, b) => match entered P g with
    | true => call floor g (appL a (appL (mapL (opnd f) args) b)) s
    | false => pureOp P f o s
  | none => pureOp P f o s
noncomputable def compOp [Know] (P : Program) (o : Oper) : OpF := match o.op with
  | .move x | .assign x => ⟨fun _ _ f s => some (opnd f x, s)⟩
  | .load t a => ⟨fun _ _ f s => orMem (memLoad P f t a s) (pureOp P f o s)⟩
  | .store t a x => ⟨fun _ floor f s => orMem (memStore P floor f t a x s) (pureOp P f o s)⟩
  | .extract t i => ⟨fun _ _ f s => orWl (wlExtract f t i) s (pureOp P f o s)⟩
  | .fieldAddr t x i => ⟨fun _ _ f s => orWl (wlFieldAddr P f t x i) s (pureOp P f o s)⟩
  | .field t x i => ⟨fun _ _ f s => orWl (wlField P f t x i) s (pureOp P f o s)⟩
  | .indexAddr t x ix => ⟨fun _ _ f s => orWl (wlIndexAddr P f t x ix) s (pureOp P f o s)⟩
  | .nilCheck x => ⟨fun _ _ f s => orWl (wlNil f x) s (pureOp P f o s)⟩
  | .pick c x y => ⟨fun _ _ f s => orWl (wlPick f c x y) s (pureOp P f o s)⟩
  | .binOp op t x y _ => ⟨fun _ _ f s => orWl (fwBin f op x y) s (orWl (wlBin P f op t x y) s (pureOp P f o s))⟩
  | .index t x ix => ⟨fun _ _ f s => orWl (fwIndex P f t x ix) s (pureOp P f o s)⟩
  | .convert src dst x => ⟨fun _ _ f s => orMem (memConv P f src dst x s) (orWl (fwConv P f src dst x) s (pureOp P f o s))⟩
  | .call { callee := .value x, args, .. } => ⟨fun call floor f s => callOp P x args.toList call floor f o s⟩
  | .call { callee := .builtin .len, args, argTypes } => ⟨fun _ _ f s => orWl (fwLen P f args argTypes) s (orWl (wlLen P f args argTypes) s (pureOp P f o s))⟩
  | .call { callee := .builtin .append, args, argTypes } => ⟨fun _ floor f s => orMem (memApp P floor f args argTypes s) (pureOp P f o s)⟩
  | _ => ⟨fun call floor f s => evalOp0 P call floor f o s⟩
noncomputable def evalOp [Know] (P : Program) (call : CallE) (floor : Nat) (f : Fr) (o : Oper) (s : AS) : Option (AV × AS) := OpF.rec (motive := fun _ => Option (AV × AS)) (fun fn => fn call floor f s) (compOp P o)
theorem orMem_eq (r d : Option (AV × AS)) : orMem r d = match r with
    | some x => some x
    | none => d := by cases r <;> rfl
theorem orWl_eq (r : Option AV) (s : AS) (d : Option (AV × AS)) : orWl r s d = match r with
    | some v => some (v, s)
    | none => d := by cases r <;> rfl
theorem evalOp_eq [Know] (P : Program) (call : CallE) (floor : Nat) (f : Fr) (o : Oper) (s : AS) : evalOp P call floor f o s = evalOp0 P call floor f o s := by
  obtain ⟨dst, op, type, pos, after, guard⟩ := o
  unfold evalOp compOp
  simp only
  split
  case h_17 => rfl
  all_goals
    simp only [orMem_eq, orWl_eq, pureOp, callOp, evalOp0, callOf, evalMem, evalWl, fastWl, evalWl0]
    try (repeat' split)
    all_goals first
      | rfl
      | simp_all
noncomputable def putA (f : Fr) : Option Tmp → AV → Fr
  | none, _ => f
  | some d, v => setF v f d
noncomputable def yieldedA (ops : Array Oper) (f : Fr) (j : Nat) : Option Bool :=
  match (ops[j]?).bind (·.dst) with
  | some d => match getF f d with
    | .lit (.bool b) => some b
    | _ => none
  | none => none
noncomputable def symAt (ops : Array Oper) (f : Fr) (j : Nat) : Bool := match (ops[j]?).bind (·.dst) with
  | some d => match getF f d with
    | .sym _ => true
    | _ => false
  | none => false
noncomputable def wantA (ops : Array Oper) (f : Fr) (o : Oper) : Option Bool := match o.guard with
  | none => some true
  | some (j, b) => match symAt ops f j with
    | true => none
    | false => some (yieldedA ops f j == some b)
noncomputable def evalSeq [Know] (P : Program) (call : CallE) (floor : Nat) (ops : Array Oper) (l : List Oper) : Fr → AS → Option (Fr × AS) :=
  List.rec (motive := fun _ => Fr → AS → Option (Fr × AS)) (fun f s => some (f, s)) (fun o _ ih f s => match wantA ops f o with
    | some true => match evalOp P call floor f o s with
      | some (v, s') => ih (putA f o.dst v) s'
      | none => none
    | some false => ih (putA f o.dst (.lit undef)) s
    | none => none) l
noncomputable def early (o : Oper) : Bool := match o.op with
  | .move _ | .assign _ | .pick .. | .extract .. | .fieldAddr .. | .field .. | .indexAddr .. | .slice .. | .binOp .. | .unOp .. | .nilCheck _ | .build .. | .index .. | .makeInterface .. | .convert .. => true
  | .call { callee := .builtin b, .. } => match b with
    | .len | .cap | .complex | .real | .imag | .min | .max => true
    | _ => false
  | _ => false
inductive Stp where
  | early (i : Nat)
  | held (i : Nat)
  | solo (i : Nat)
  | flo (i : Nat)
  | pair (i j : Nat)
noncomputable def isLoad (o : Oper) : Bool := match o.op with
  | .load .. => true
  | _ => false
noncomputable def depM (o : Oper) : Nat := o.after.toList.foldr (fun e m => if Region.binds .any e then m ||| (2 ^ e.on) else m) 0
noncomputable def lookM (ops : Array Oper) (o : Oper) : Nat := (o.looksAt ops).foldr (fun t m => m ||| (2 ^ t)) 0
structure Rec where
  i : Nat
  o : Oper
  deps : Nat
  looks : Nat
noncomputable def recs (ops : Array Oper) : List Oper → Nat → List Rec
  | [], _ => []
  | o :: r, i => ⟨i, o, depM o, lookM ops o⟩ :: recs ops r (i + 1)
noncomputable def hitM (d : Option Tmp) (m : Nat) : Bool := match d with
  | some d => m.testBit d
  | none => false
noncomputable def sameD (a b : Option Tmp) : Bool := match a, b with
  | some x, some y => Nat.beq x y
  | _, _ => false
noncomputable def apartR (x y : Rec) : Bool := !hitM x.o.dst y.looks && (!sameD x.o.dst y.o.dst && !hitM y.o.dst x.looks)
noncomputable def readyR (m : Nat) (r : Rec) : Bool := Nat.beq (r.deps &&& m) r.deps
noncomputable def freeR (l : List Rec) (r : Rec) : Bool := allL (fun q => Nat.beq q.i r.i || (q.deps.testBit r.i || apartR r q)) l
noncomputable def without (i : Nat) (l : List Rec) : List Rec := List.rec (motive := fun _ => List Rec) [] (fun r _ ih => Bool.rec (r :: ih) ih (Nat.beq r.i i)) l
noncomputable def firstR (t : Oper → Bool) (m : Nat) (all : List Rec) (l : List Rec) : Option Rec :=
  List.rec (motive := fun _ => Option Rec) none (fun r _ ih => Bool.rec ih (some r) (t r.o && (readyR m r && freeR all r))) l
noncomputable def readyL (m : Nat) (l : List Rec) : List Rec := List.rec (motive := fun _ => List Rec) [] (fun r _ ih => Bool.rec ih (r :: ih) (readyR m r)) l
noncomputable def pairR (m : Nat) (l : List Rec) (a b : Rec) : Bool :=
  isLoad a.o && isLoad b.o && a.o.guard.isNone && b.o.guard.isNone && apartR a b &&
    allL (fun q => Nat.beq q.i a.i || (Nat.beq q.i b.i || (!readyR (m ||| 2 ^ a.i) q && !readyR (m ||| 2 ^ b.i) q))) l
noncomputable def isAlloc (o : Oper) : Bool := match o.op, o.guard, o.dst with
  | .alloc _, none, some _ => true
  | _, _, _ => false
noncomputable def floR (all : List Rec) (r : Rec) : Bool := isAlloc r.o && (Nat.beq r.deps 0 && freeR all r)
noncomputable def floM (all l : List Rec) : Nat := List.rec (motive := fun _ => Nat) 0 (fun r _ ih => Bool.rec ih (ih ||| 2 ^ r.i) (floR all r)) l
noncomputable def stepM (c : Nat) (l : List Rec) : Nat := List.rec (motive := fun _ => Nat) c (fun r _ ih => Bool.rec ih (ih ||| r.deps) (c.testBit r.i)) l
noncomputable def closM (all : List Rec) (n m : Nat) : Nat := Nat.rec (motive := fun _ => Nat) m (fun _ c => stepM c all) n
noncomputable def waitsR (all : List Rec) (q : Rec) (i : Nat) : Bool := q.deps.testBit i || (closM all 8 q.deps).testBit i
noncomputable def pendM (fs i : Nat) (l : List Rec) : Nat := List.rec (motive := fun _ => Nat) 0 (fun q _ ih => Bool.rec ih (ih ||| 2 ^ q.i) (fs.testBit q.i && !Nat.beq q.i i)) l
noncomputable def wtB (fs : Nat) (all l : List Rec) (i : Nat) : Bool := Nat.beq fs 0 || allL (fun q => Nat.beq (q.deps &&& pendM fs i l) 0 || waitsR all q i) l
noncomputable def plain (fs : Nat) (l : List Rec) : List Rec := List.rec (motive := fun _ => List Rec) [] (fun r _ ih => Bool.rec (r :: ih) ih (fs.testBit r.i)) l
noncomputable def planGo (fs : Nat) (all : List Rec) : Nat → Nat → List Rec → Option (List Stp)
  | 0, m, l => match readyL m l with
    | [] => some []
    | _ => none
  | n + 1, m, l => match firstR early m l l with
    | some r => match fs.testBit r.i, planGo fs all n (m ||| 2 ^ r.i) (without r.i l) with
      | false, some p => some (.early r.i :: p)
      | _, _ => none
    | none => match plain fs (readyL m l) with
      | [] => match readyL m l with
        | [] => some []
        | r :: _ => match wtB fs all l r.i, planGo fs all n (m ||| 2 ^ r.i) (without r.i l) with
          | true, some p => some (.flo r.i :: p)
          | _, _ => none
      | [r] => match wtB fs all l r.i with
        | true => match planGo fs all n (m ||| 2 ^ r.i) (without r.i l) with
          | some p => some (.solo r.i :: p)
          | none => none
        | false => match firstR isLoad m l l with
          | none => none
          | some r => match fs.testBit r.i, planGo fs all n (m ||| 2 ^ r.i) (without r.i l) with
            | false, some p => some (.held r.i :: p)
            | _, _ => none
      | a :: b :: more => match firstR isLoad m l l with
        | none => none
        | some r => match more, n, Nat.beq fs 0 && pairR m l a b with
          | [], n + 1, true => match planGo fs all n ((m ||| 2 ^ a.i) ||| 2 ^ b.i) (without b.i (without a.i l)) with
            | some p => some (.pair a.i b.i :: p)
            | none => none
          | _, n, _ => match fs.testBit r.i, planGo fs all n (m ||| 2 ^ r.i) (without r.i l) with
            | false, some p => some (.held r.i :: p)
            | _, _ => none
noncomputable def planW (ops : Array Oper) (all : List Rec) : Option (Nat × List Stp) := match planGo 0 all ops.size 0 all with
  | some p => some (0, p)
  | none => match planGo (floM all all) all ops.size 0 all with
    | some p => some (floM all all, p)
    | none => none
noncomputable def plan (ops : Array Oper) : Option (Nat × List Stp) := match Region.noSelect ops with
  | true => planW ops (recs ops ops.toList 0)
  | false => none
noncomputable def hasK (l : List (Nat × Nat)) (k : Nat) : Bool := List.rec (motive := fun _ => Bool) false (fun a _ ih => Bool.rec ih true (Nat.beq a.2 k)) l
noncomputable def waitsAll (ops : Array Oper) (i : Nat) (ws : List Nat) (kl : List (Nat × Nat)) : Bool :=
  allL (fun p => !hasN ws p.2 || match ops[i]? with
    | some o => waitsR (recs ops ops.toList 0) ⟨i, o, depM o, 0⟩ p.1
    | none => false) kl
noncomputable def evalHeld (P : Program) (f : Fr) (o : Oper) (s : AS) : Option (AV × Nat) := match o.op with
  | .load t a => match opnd f a with
    | .ptr k off => match look k s.h with
      | some b => match partOf P t b off with
        | some v => some (v, k)
        | none => none
      | none => none
    | _ => none
  | _ => none
noncomputable def planOne [Know] (P : Program) (call : CallE) (s0 : AS) (floor : Nat) (ops : Array Oper) (t : Stp) (f : Fr) (s : AS) (kl tl : List (Nat × Nat)) : Option (Fr × AS × List (Nat × Nat) × List (Nat × Nat)) :=
  match t with
  | .early i => match ops[i]? with
    | some o => match wantA ops f o with
      | some true => match evalWl P f o with
        | some v => some (putA f o.dst v, s, kl, tl)
        | none => none
      | some false => some (putA f o.dst (.lit undef), s, kl, tl)
      | none => none
    | none => none
  | .held i => match ops[i]? with
    | some o => match wantA ops f o with
      | some true => match evalHeld P f o s with
        | some (v, k) => match look k s0.h, hasK tl k with
          | some _, false => some (putA f o.dst v, s, (i, k) :: kl, tl)
          | _, _ => none
        | none => none
      | some false => some (putA f o.dst (.lit undef), s, kl, tl)
      | none => none
    | none => none
  | .solo i => match ops[i]? with
    | some o => match wantA ops f o with
      | some true => match evalOp P call floor f o ⟨s.n, s.h, [], s.gl⟩ with
        | some (v, s') => match waitsAll ops i s'.wr kl with
          | true => some (putA f o.dst v, ⟨s'.n, s'.h, unionW s'.wr s.wr, s'.gl⟩, kl, appL (mapL (fun k => (i, k)) s'.wr) tl)
          | false => none
        | none => none
      | some false => some (putA f o.dst (.lit undef), s, kl, tl)
      | none => none
    | none => none
  | .flo i => match ops[i]? with
    | some o => match o.op with
      | .alloc t => match P.info? t with
        | some inf => match inf.zero with
          | some z => some (putA f o.dst (.ptr s.n 0), newB s (mapL .lit z.cells.toList), kl, tl)
          | none => none
        | none => none
      | _ => none
    | none => none
  | .pair i j => match ops[i]?, ops[j]? with
    | some a, some b => match evalHeld P f a s, evalHeld P f b s with
      | some (u, _), some (v, _) => some (putA (putA f a.dst u) b.dst v, s, kl, tl)
      | _, _ => none
    | _, _ => none
noncomputable def evalPlan [Know] (P : Program) (call : CallE) (s0 : AS) (floor : Nat) (ops : Array Oper) (l : List Stp) : Fr → AS → List (Nat × Nat) → List (Nat × Nat) → Option (Fr × AS × List (Nat × Nat)) :=
  List.rec (motive := fun _ => Fr → AS → List (Nat × Nat) → List (Nat × Nat) → Option (Fr × AS × List (Nat × Nat))) (fun f s _ tl => some (f, s, tl)) (fun t _ ih f s kl tl =>
    match planOne P call s0 floor ops t f s kl tl with
    | some (f', s', kl', tl') => ih f' s' kl' tl'
    | none => none) l
noncomputable def zeroB (P : Program) (o : Oper) : Bool := match o.op with
  | .alloc t => match P.info? t with
    | some inf => inf.zero.isSome
    | none => false
  | _ => true
noncomputable def evalRegion [Know] (P : Program) (call : CallE) (floor : Nat) (ops : Array Oper) (draw : Bool) (f : Fr) (s : AS) : Option (Fr × AS) :=
  match draw with
  | false => evalSeq P call floor ops ops.toList f s
  | true => match plan ops with
    | some (fs, pl) => match Nat.beq fs 0 || allL (zeroB P) ops.toList with
      | true => match evalPlan P call s floor ops pl f s [] [] with
        | some (f', s', _) => some (f', s')
        | none => none
      | false => none
    | none => none
inductive AX where
  | normal
  | exit (id : Nat)
  | goto (l : Nat)
  | ret
abbrev CodeE := Nat → Code → Fr → AS → Option (AX × Fr × AS)
structure Ev where
  code : CodeE
  loop : CodeE
  scope : Nat → Code → Code → Fr → AS → Option (AX × Fr × AS)
  call : CallE
noncomputable def codeRegion [Know] (P : Program) (E : Ev) (floor : Nat) (ops : Array Oper) (draw : Bool) (f : Fr) (s : AS) : Option (AX × Fr × AS) := match evalRegion P E.call floor ops draw f s with
  | some (f', s') => forceF f' fun f'' => some (.normal, f'', s')
  | none => none
noncomputable def codeSeq (E : Ev) (floor : Nat) (a b : Code) (f : Fr) (s : AS) : Option (AX × Fr × AS) := match E.code floor a f s with
  | some (.normal, f', s') => E.code floor b f' s'
  | r => r
noncomputable def codeCond (E : Ev) (floor : Nat) (o : Operand) (a b : Code) (f : Fr) (s : AS) : Option (AX × Fr × AS) := match opnd f o with
  | .lit (.bool true) => E.code floor a f s
  | .lit (.bool false) => E.code floor b f s
  | _ => none
noncomputable def codeBlock (E : Ev) (floor id : Nat) (c : Code) (f : Fr) (s : AS) : Option (AX × Fr × AS) := match E.code floor c f s with
  | some (.exit j, f', s') => match Nat.beq j id with
    | true => some (.normal, f', s')
    | false => some (.exit j, f', s')
  | r => r
noncomputable def codeStep [Know] (P : Program) (E : Ev) (floor : Nat) (c : Code) (f : Fr) (s : AS) : Option (AX × Fr × AS) :=
  match c with
  | .skip => some (.normal, f, s)
  | .label _ => some (.normal, f, s)
  | .region _ ops draw => codeRegion P E floor ops draw f s
  | .seq a b => codeSeq E floor a b f s
  | .cond o a b => codeCond E floor o a b f s
  | .block id c => codeBlock E floor id c f s
  | .loop c => E.loop floor c f s
  | .scope c => E.scope floor c c f s
  | .exit id => some (.exit id, f, s)
  | .goto l => some (.goto l, f, s)
  | .ret => some (.ret, f, s)
  | _ => none
noncomputable def loopStep (E : Ev) (floor : Nat) (c : Code) (f : Fr) (s : AS) : Option (AX × Fr × AS) :=
  match E.code floor c f s with
  | some (.normal, f', s') => E.loop floor c f' s'
  | r => r
noncomputable def scopeStep (E : Ev) (floor : Nat) (c cur : Code) (f : Fr) (s : AS) : Option (AX × Fr × AS) :=
  match E.code floor cur f s with
  | some (.goto l, f', s') => match findLabel c l with
    | some rest => E.scope floor c rest f' s'
    | none => some (.goto l, f', s')
  | r => r
noncomputable def resA (P : Program) (f : Fr) (s : AS) : List ResultVar → Option (List AV)
  | [] => some []
  | .tmp t :: r => match resA P f s r with
    | some l => some (getF f t :: l)
    | none => none
  | .cell a t :: r => match getF f a with
    | .ptr k off => match look k s.h with
      | some b => match partOf P t b off, resA P f s r with
        | some v, some l => some (v :: l)
        | _, _ => none
      | none => none
    | _ => none
noncomputable def frame (m : Nat) (args : List AV) : Fr := forceN (lenL args + (m - lenL args)) fun n => ⟨n, trInit args 0 (trFull (Nat.log2 n + 1))⟩
noncomputable def callStep (P : Program) (E : Ev) (floor : Nat) (g : FuncId) (args : List AV) (s : AS) : Option (AV × AS) :=
  match P.funcs[g]? with
  | some fn => match fn.body with
    | some c => match E.code floor c (frame fn.ntmps args) ⟨s.n, s.h, [], s.gl⟩ with
      | some (.normal, f', s') | some (.ret, f', s') => match resA P f' s' fn.results.toList with
        | some [v] => match isLit v && allL isLit args with
          | true => some (v, ⟨s'.n, dropNew s.n s'.h, unionW (oldW s.n s'.wr) s.wr, s'.gl⟩)
          | false => some (v, ⟨s'.n, s'.h, unionW (oldW s.n s'.wr) s.wr, s'.gl⟩)
        | some vs => match isLit (mkTup vs) && allL isLit args with
          | true => some (mkTup vs, ⟨s'.n, dropNew s.n s'.h, unionW (oldW s.n s'.wr) s.wr, s'.gl⟩)
          | false => some (mkTup vs, ⟨s'.n, s'.h, unionW (oldW s.n s'.wr) s.wr, s'.gl⟩)
        | none => none
      | _ => none
    | none => none
  | none => none
noncomputable def evStep [Know] (P : Program) (E : Ev) : Ev := ⟨codeStep P E, loopStep E, scopeStep E, knowCall (callStep P E)⟩
noncomputable def ev [Know] (P : Program) (n : Nat) : Ev := Nat.rec ⟨fun _ _ _ _ => none, fun _ _ _ _ => none, fun _ _ _ _ _ => none, fun _ _ _ _ => none⟩ (fun _ E => evStep P E) n
@[reducible] noncomputable def noKnow : Know := ⟨[], []⟩
def Globs (gl : List (Nat × List AV)) (w : World) : Prop := ∀ g B, look g gl = some B → g < w.heap.size ∧ ∀ i v, B[i]? = some v → ∃ u, v = .lit u ∧ w.cell? ⟨g, i, none⟩ = some u
noncomputable def comes [Know] (P : Program) (gl : List (Nat × List AV)) (n : Nat) (g : FuncId) (l : List AV) : Option AV := match (ev P n).call 0 g l ⟨0, [], [], gl⟩ with
  | some (v, _) => some v
  | none => none
noncomputable def saysG (P : Program) (gl : List (Nat × List AV)) (n : Nat) (g : FuncId) (l : List Value) (b : Bool) : Bool := match (@ev noKnow P n).call 0 g (mapL .lit l) ⟨0, [], [], gl⟩ with
  | some (.lit (.bool c), _) => c == b
  | _ => false
end Go.Proofs.YtmjjodficjjehabGreatDoor
set_option linter.unusedSectionVars false
namespace Go.Proofs.YtmjjodficjjehabGreatDoor
open Go Go.RowKit
class Env where
  env : Nat → Value
  flat : ∀ i, (env i).oneCell' = true
  gl : List (Nat × List AV)
variable [Env]
abbrev Rho := Nat → Nat → Nat → Prop
mutual
def VRel (R : Rho) : AV → Value → Prop
  | .lit v, x => x = v
  | .ptr k off, x => ∃ b T, R k b T ∧ x = .pointer (some ⟨b, off, none⟩)
  | .sl k off len (some c) _, x => ∃ b T, R k b T ∧ x = .slice (some ⟨b, off, none⟩) len c
  | .sl k off len none sz, x => ∃ b T c, R k b T ∧ len ≤ c ∧ off + c * sz ≤ T ∧ x = .slice (some ⟨b, off, none⟩) len c
  | .emp, x => ∃ a c, x = .slice (some a) 0 c
  | .agg vs, x => ∃ cs, VRels R vs cs ∧ x = .agg cs.toArray
  | .tup vs, x => ∃ cs, VRels R vs cs ∧ x = .tuple cs.toArray
  | .ifc t v, x => ∃ y, VRel R v y ∧ x = .iface t y
  | .fn f a b, x => ∃ as1 bs, VRels R a as1 ∧ VRels R b bs ∧ x = .func f as1.toArray bs.toArray
  | .sym i, x => x = Env.env i
  | .row _ _ _, _ => False
def VRels (R : Rho) : List AV → List Value → Prop
  | [], xs => xs = []
  | v :: vs, xs => ∃ y ys, xs = y :: ys ∧ VRel R v y ∧ VRels R vs ys
end
def Ext (R R' : Rho) : Prop := ∀ k b T, R k b T → R' k b T
theorem Ext.refl (R : Rho) : Ext R R := fun _ _ _ h => h
theorem Ext.trans {R R' R'' : Rho} (h : Ext R R') (h' : Ext R' R'') : Ext R R'' := fun k b T x => h' k b T (h k b T x)
mutual
theorem VRel.ext {R R' : Rho} (h : Ext R R') : ∀ {v : AV} {x : Value}, VRel R v x → VRel R' v x
  | .lit v, x, e => by simpa only [VRel] using e
  | .ptr k off, x, e => by
    simp only [VRel] at e ⊢
    obtain ⟨b, T, r, e⟩ := e
    exact ⟨b, T, h _ _ _ r, e⟩
  | .sl k off len (some c) _, x, e => by
    simp only [VRel] at e ⊢
    obtain ⟨b, T, r, e⟩ := e
    exact ⟨b, T, h _ _ _ r, e⟩
  | .sl k off len none sz, x, e => by
    simp only [VRel] at e ⊢
    obtain ⟨b, T, c, r, e⟩ := e
    exact ⟨b, T, c, h _ _ _ r, e⟩
  | .emp, x, e => by simpa only [VRel] using e
  | .agg vs, x, e => by
    simp only [VRel] at e ⊢
    obtain ⟨cs, r, e⟩ := e
    exact ⟨cs, VRels.ext h r, e⟩
  | .tup vs, x, e => by
    simp only [VRel] at e ⊢
    obtain ⟨cs, r, e⟩ := e
    exact ⟨cs, VRels.ext h r, e⟩
  | .ifc t v, x, e => by
    simp only [VRel] at e ⊢
    obtain ⟨y, r, e⟩ := e
    exact ⟨y, VRel.ext h r, e⟩
  | .fn f a b, x, e => by
    simp only [VRel] at e ⊢
    obtain ⟨as1, bs, r, q, e⟩ := e
    exact ⟨as1, bs, VRels.ext h r, VRels.ext h q, e⟩
  | .sym i, x, e => by simpa only [VRel] using e
  | .row _ _ _, x, e => by simp only [VRel] at e
theorem VRels.ext {R R' : Rho} (h : Ext R R') : ∀ {vs : List AV} {xs : List Value}, VRels R vs xs → VRels R' vs xs
  | [], xs, e => by simpa only [VRels] using e
  | v :: vs, xs, e => by
    simp only [VRels] at e ⊢
    obtain ⟨y, ys, e, r, q⟩ := e
    exact ⟨y, ys, e, VRel.ext h r, VRels.ext h q⟩
end
section
variable {R : Rho}
theorem VRels.nil : VRels R [] [] := by simp only [VRels]
theorem VRels.cons {v : AV} {x : Value} {vs : List AV} {xs : List Value} (h : VRel R v x) (hs : VRels R vs xs) : VRels R (v :: vs) (x :: xs) := by
  simp only [VRels]; exact ⟨x, xs, rfl, h, hs⟩
theorem VRels.length : ∀ {vs : List AV} {xs : List Value}, VRels R vs xs → xs.length = vs.length
  | [], xs, h => by simp only [VRels] at h; subst h; rfl
  | v :: vs, xs, h => by
    simp only [VRels] at h
    obtain ⟨y, ys, rfl, _, q⟩ := h
    simp [VRels.length q]
theorem VRels.get : ∀ {vs : List AV} {xs : List Value}, VRels R vs xs → ∀ {i : Nat} {v : AV}, vs[i]? = some v → ∃ x, xs[i]? = some x ∧ VRel R v x
  | [], xs, h, i, v, e => by simp at e
  | w :: vs, xs, h, i, v, e => by
    simp only [VRels] at h
    obtain ⟨y, ys, rfl, r, q⟩ := h
    cases i with
    | zero => simp at e; subst e; exact ⟨y, rfl, r⟩
    | succ i => simp at e; obtain ⟨x, h1, h2⟩ := VRels.get q e; exact ⟨x, by simpa using h1, h2⟩
theorem VRels.set : ∀ {vs : List AV} {xs : List Value}, VRels R vs xs → ∀ (i : Nat) {v : AV} {x : Value}, VRel R v x → VRels R (vs.set i v) (xs.set i x)
  | [], xs, h, i, v, x, e => by simp only [VRels] at h; subst h; exact VRels.nil
  | w :: vs, xs, h, i, v, x, e => by
    simp only [VRels] at h
    obtain ⟨y, ys, rfl, r, q⟩ := h
    cases i with
    | zero => exact VRels.cons e q
    | succ i => exact VRels.cons r (VRels.set q i e)
theorem VRels.append : ∀ {vs : List AV} {xs : List Value} {us : List AV} {ys : List Value}, VRels R vs xs → VRels R us ys → VRels R (vs ++ us) (xs ++ ys)
  | [], xs, us, ys, h, h' => by simp only [VRels] at h; subst h; simpa using h'
  | w :: vs, xs, us, ys, h, h' => by
    simp only [VRels] at h
    obtain ⟨y, zs, rfl, r, q⟩ := h
    exact VRels.cons r (VRels.append q h')
theorem VRels.take : ∀ {vs : List AV} {xs : List Value}, VRels R vs xs → ∀ (n : Nat), VRels R (vs.take n) (xs.take n)
  | [], xs, h, n => by simp only [VRels] at h; subst h; simpa using VRels.nil
  | w :: vs, xs, h, n => by
    simp only [VRels] at h
    obtain ⟨y, zs, rfl, r, q⟩ := h
    cases n with
    | zero => simpa using VRels.nil
    | succ n => simpa using VRels.cons r (VRels.take q n)
theorem VRels.drop : ∀ {vs : List AV} {xs : List Value}, VRels R vs xs → ∀ (n : Nat), VRels R (vs.drop n) (xs.drop n)
  | [], xs, h, n => by simp only [VRels] at h; subst h; simpa using VRels.nil
  | w :: vs, xs, h, n => by
    simp only [VRels] at h
    obtain ⟨y, zs, rfl, r, q⟩ := h
    cases n with
    | zero => simpa using VRels.cons r q
    | succ n => simpa using VRels.drop q n
theorem VRel.lit_ (v : Value) : VRel R (.lit v) v := by simp only [VRel]
theorem VRel.lit_eq {v x : Value} (h : VRel R (.lit v) x) : x = v := by simpa only [VRel] using h
theorem VRels.lits_ : ∀ (l : List Value), VRels R (l.map .lit) l
  | [] => VRels.nil
  | v :: l => VRels.cons (VRel.lit_ v) (VRels.lits_ l)
theorem VRels.map_ {α : Type} (f : α → AV) (g : α → Value) (h : ∀ a, VRel R (f a) (g a)) : ∀ (l : List α), VRels R (l.map f) (l.map g)
  | [] => VRels.nil
  | a :: l => VRels.cons (h a) (VRels.map_ f g h l)
theorem VRels.replicate (n : Nat) (v : Value) : VRels R (List.replicate n (.lit v)) (List.replicate n v) := by
  induction n with
  | zero => exact VRels.nil
  | succ n ih => exact VRels.cons (VRel.lit_ v) ih
theorem litOf2_some {v : AV} {l : Option (List Value)} {r : List Value} (h : litOf2 v l = some r) : ∃ x t, v = .lit x ∧ l = some t ∧ r = x :: t := by
  unfold litOf2 at h
  split at h
  · injection h with h; exact ⟨_, _, rfl, rfl, h.symm⟩
  · cases h
theorem lits_some : ∀ {vs : List AV} {l : List Value}, lits vs = some l → vs = l.map .lit
  | [], l, h => by
    have : (some [] : Option (List Value)) = some l := h
    injection this with h; subst h; rfl
  | v :: vs, l, h => by
    have h' : litOf2 v (lits vs) = some l := h
    obtain ⟨x, t, rfl, ht, rfl⟩ := litOf2_some h'
    rw [lits_some ht]; rfl
theorem VRels.lits_eq {vs : List AV} {xs l : List Value} (h : VRels R vs xs) (hl : lits vs = some l) : xs = l := by
  rw [lits_some hl] at h
  clear hl
  induction l generalizing xs with
  | nil => simpa only [List.map_nil, VRels] using h
  | cons a l ih =>
    simp only [List.map_cons, VRels] at h
    obtain ⟨y, ys, rfl, r, q⟩ := h
    rw [VRel.lit_eq r, ih q]
theorem VRel.mkAgg {vs : List AV} {cs : List Value} (h : VRels R vs cs) : VRel R (mkAgg vs) (.agg cs.toArray) := by
  unfold Go.Proofs.YtmjjodficjjehabGreatDoor.mkAgg
  cases hl : lits vs with
  | none => simp only [VRel]; exact ⟨cs, h, rfl⟩
  | some l => rw [h.lits_eq hl]; exact VRel.lit_ _
theorem VRel.mkTup {vs : List AV} {cs : List Value} (h : VRels R vs cs) : VRel R (mkTup vs) (.tuple cs.toArray) := by
  unfold Go.Proofs.YtmjjodficjjehabGreatDoor.mkTup
  cases hl : lits vs with
  | none => simp only [VRel]; exact ⟨cs, h, rfl⟩
  | some l => rw [h.lits_eq hl]; exact VRel.lit_ _
theorem VRel.cells_ {v : AV} {x : Value} (h : VRel R v x) : VRels R v.cells x.cells.toList := by
  have one : ∀ {v : AV} {x : Value}, VRel R v x → x.cells = #[x] → VRels R [v] x.cells.toList := fun h e => by
    rw [e]; exact VRels.cons h VRels.nil
  cases v with
  | lit v =>
    have e := VRel.lit_eq h
    subst e
    cases x <;> first
      | exact one (VRel.lit_ _) rfl
      | (simp only [AV.cells, mapL_eq, Value.cells]; exact VRels.lits_ _)
  | agg vs =>
    simp only [VRel] at h
    obtain ⟨cs, r, rfl⟩ := h
    simpa [AV.cells, Value.cells] using r
  | ptr k off => have h' := h; simp only [VRel] at h'; obtain ⟨_, _, _, e⟩ := h'; exact one h (by rw [e]; rfl)
  | sl k off len c sz =>
    have h' := h
    cases c with
    | none => simp only [VRel] at h'; obtain ⟨_, _, _, _, _, _, e⟩ := h'; exact one h (by rw [e]; rfl)
    | some c => simp only [VRel] at h'; obtain ⟨_, _, _, e⟩ := h'; exact one h (by rw [e]; rfl)
  | emp => have h' := h; simp only [VRel] at h'; obtain ⟨_, _, e⟩ := h'; exact one h (by rw [e]; rfl)
  | tup vs => have h' := h; simp only [VRel] at h'; obtain ⟨_, _, e⟩ := h'; exact one h (by rw [e]; rfl)
  | ifc t v => have h' := h; simp only [VRel] at h'; obtain ⟨_, _, e⟩ := h'; exact one h (by rw [e]; rfl)
  | fn f a b => have h' := h; simp only [VRel] at h'; obtain ⟨_, _, _, _, e⟩ := h'; exact one h (by rw [e]; rfl)
  | sym i =>
    have h' := h
    simp only [VRel] at h'
    have hf := Env.flat i
    rw [← h'] at hf
    exact one h (by cases x <;> first | rfl | cases hf)
  | row n o a => simp only [VRel] at h
theorem VRel.one_ {v : AV} {x : Value} (h : VRel R v x) (h1 : v.one = true) : x.oneCell' = true := by
  cases v with
  | lit v =>
    have e := VRel.lit_eq h
    subst e
    cases x <;> first | rfl | cases h1
  | agg vs => cases h1
  | tup vs => cases h1
  | ptr k off => simp only [VRel] at h; obtain ⟨_, _, _, e⟩ := h; rw [e]; rfl
  | sl k off len c sz =>
    cases c with
    | none => simp only [VRel] at h; obtain ⟨_, _, _, _, _, _, e⟩ := h; rw [e]; rfl
    | some c => simp only [VRel] at h; obtain ⟨_, _, _, e⟩ := h; rw [e]; rfl
  | emp => simp only [VRel] at h; obtain ⟨_, _, e⟩ := h; rw [e]; rfl
  | ifc t v => simp only [VRel] at h; obtain ⟨_, _, e⟩ := h; rw [e]; rfl
  | fn f a b => simp only [VRel] at h; obtain ⟨_, _, _, _, e⟩ := h; rw [e]; rfl
  | sym i => simp only [VRel] at h; rw [h]; exact Env.flat i
  | row n o a => simp only [VRel] at h
theorem VRels.ones : ∀ {vs : List AV} {xs : List Value}, VRels R vs xs → vs.all (·.one) = true → ∀ x ∈ xs, x.oneCell' = true
  | [], xs, h, _, x, hx => by simp only [VRels] at h; subst h; cases hx
  | v :: vs, xs, h, h1, x, hx => by
    simp only [VRels] at h
    obtain ⟨y, ys, rfl, r, q⟩ := h
    simp only [List.all_cons, Bool.and_eq_true] at h1
    rcases List.mem_cons.1 hx with rfl | hx
    · exact r.one_ h1.1
    · exact VRels.ones q h1.2 x hx
end
/-! ### Memory -/
theorem upd_cons (k : Nat) (b : List AV) (p : Nat × List AV) (h : List (Nat × List AV)) : upd k b (p :: h) = if p.1 = k then (p.1, b) :: h else p :: upd k b h := by
  show (Bool.rec (p :: upd k b h) ((p.1, b) :: h) (Nat.beq p.1 k) : List (Nat × List AV)) = _
  cases hb : Nat.beq p.1 k with
  | true => rw [if_pos (Nat.eq_of_beq_eq_true hb)]
  | false => rw [if_neg (Nat.ne_of_beq_eq_false hb)]
theorem kill_cons (k : Nat) (p : Nat × List AV) (h : List (Nat × List AV)) : kill k (p :: h) = if p.1 = k then kill k h else p :: kill k h := by
  show (Bool.rec (p :: kill k h) (kill k h) (Nat.beq p.1 k) : List (Nat × List AV)) = _
  cases hb : Nat.beq p.1 k with
  | true => rw [if_pos (Nat.eq_of_beq_eq_true hb)]
  | false => rw [if_neg (Nat.ne_of_beq_eq_false hb)]
theorem dropNew_cons (n : Nat) (p : Nat × List AV) (h : List (Nat × List AV)) : dropNew n (p :: h) = if n ≤ p.1 then dropNew n h else p :: dropNew n h := by
  show (Bool.rec (p :: dropNew n h) (dropNew n h) (Nat.ble n p.1) : List (Nat × List AV)) = _
  cases hb : Nat.ble n p.1 with
  | true => rw [if_pos (Nat.le_of_ble_eq_true hb)]
  | false => rw [if_neg (fun h => by rw [Nat.ble_eq_true_of_le h] at hb; cases hb)]
theorem look_upd_same {k : Nat} {b c : List AV} : ∀ {h : List (Nat × List AV)}, look k h = some c → look k (upd k b h) = some b
  | [], e => by cases e
  | p :: h, e => by
    rw [upd_cons]
    rw [look_cons] at e
    split
    · rename_i hp; rw [look_cons, if_pos hp]
    · rename_i hp; rw [if_neg hp] at e; rw [look_cons, if_neg hp]; exact look_upd_same e
theorem look_upd_ne {j k : Nat} (hjk : j ≠ k) {b : List AV} : ∀ {h : List (Nat × List AV)}, look j (upd k b h) = look j h
  | [] => rfl
  | p :: h => by
    rw [upd_cons]
    split
    · rename_i hp
      rw [look_cons, look_cons]
      have : ¬ p.1 = j := fun e => hjk (e.symm.trans hp)
      rw [if_neg this, if_neg this]
    · rw [look_cons, look_cons, look_upd_ne hjk]
theorem look_upd_some {j k : Nat} {b c B : List AV} {h : List (Nat × List AV)} (hk : look k h = some c) (e : look j (upd k b h) = some B) : ∃ B', look j h = some B' := by
  by_cases hjk : j = k
  · subst hjk; exact ⟨c, hk⟩
  · rw [look_upd_ne hjk] at e; exact ⟨B, e⟩
theorem look_kill_ne {j k : Nat} (hjk : j ≠ k) : ∀ {h : List (Nat × List AV)}, look j (kill k h) = look j h
  | [] => rfl
  | p :: h => by
    rw [kill_cons]
    split
    · rename_i hp
      have : ¬ p.1 = j := fun e => hjk (e.symm.trans hp)
      rw [look_cons, if_neg this, look_kill_ne hjk]
    · rw [look_cons, look_cons, look_kill_ne hjk]
theorem look_kill_same {k : Nat} : ∀ {h : List (Nat × List AV)}, look k (kill k h) = none
  | [] => rfl
  | p :: h => by
    rw [kill_cons]
    split
    · exact look_kill_same
    · rename_i hp; rw [look_cons, if_neg hp, look_kill_same]
theorem look_kill_some {j k : Nat} {B : List AV} {h : List (Nat × List AV)} (e : look j (kill k h) = some B) : j ≠ k ∧ look j h = some B := by
  by_cases hjk : j = k
  · subst hjk; rw [look_kill_same] at e; cases e
  · rw [look_kill_ne hjk] at e; exact ⟨hjk, e⟩
theorem look_dropNew_some {j n : Nat} {B : List AV} : ∀ {h : List (Nat × List AV)}, look j (dropNew n h) = some B → look j h = some B
  | [], e => by cases e
  | p :: h, e => by
    rw [dropNew_cons] at e
    split at e
    · rename_i hp
      have e' := look_dropNew_some e
      rw [look_cons]
      split
      · rename_i hpj
        have : look j (dropNew n h) = none := by
          clear e e'
          induction h with
          | nil => rfl
          | cons q h ih =>
            rw [dropNew_cons]
            split
            · exact ih
            · rename_i hq; rw [look_cons, if_neg (by omega), ih]
        rw [this] at e; cases e
      · exact e'
    · rw [look_cons] at e ⊢
      split at e
      · rename_i hp; rw [if_pos hp]; exact e
      · rename_i hp; rw [if_neg hp]; exact look_dropNew_some e
def BRel (R : Rho) (B : List AV) (w : World) (b T : Nat) : Prop :=
  ∃ C e fz, w.heap[b]? = some (.cells C e fz) ∧ C.size = T ∧ B.length ≤ T ∧ VRels R B (C.toList.take B.length) ∧ ∀ i, i < T → (decide (fz.1 ≤ i) && decide (i < fz.2)) = false
structure WRel (R : Rho) (s : AS) (w : World) : Prop where
  fn : ∀ {k b T b' T'}, R k b T → R k b' T' → b = b' ∧ T = T'
  dom : ∀ {k b T}, R k b T → k < s.n ∧ b < w.heap.size
  inj : ∀ {k k' b T T' B B'}, look k s.h = some B → look k' s.h = some B' → R k b T → R k' b T' → k = k'
  blk : ∀ {k B}, look k s.h = some B → ∃ b T, R k b T ∧ BRel R B w b T
structure Inv (R : Rho) (s : AS) (w : World) (floor base : Nat) : Prop where
  rel : WRel R s w
  hb : base ≤ w.heap.size
  hf : floor ≤ s.n
  own : ∀ {k b T}, R k b T → floor ≤ k → base ≤ b
  glo : ∀ {g B}, look g s.gl = some B → g < base ∧ ∀ i v, B[i]? = some v → ∃ u, v = .lit u ∧ w.cell? ⟨g, i, none⟩ = some u
  kgl : s.gl = Env.gl
theorem BRel.ext {R R' : Rho} (h : Ext R R') {B : List AV} {w : World} {b T : Nat} : BRel R B w b T → BRel R' B w b T :=
  fun ⟨C, e, fz, h1, h2, h3, h4, h5⟩ => ⟨C, e, fz, h1, h2, h3, h4.ext h, h5⟩
theorem BRel.of_block {R : Rho} {B : List AV} {w w' : World} {b T : Nat} (h : BRel R B w b T) (he : w'.heap[b]? = w.heap[b]?) : BRel R B w' b T :=
  let ⟨C, e, fz, h1, h2⟩ := h
  ⟨C, e, fz, he.trans h1, h2⟩
theorem BRel.cell {R : Rho} {B : List AV} {w : World} {b T : Nat} (h : BRel R B w b T) {i : Nat} {v : AV} (hv : B[i]? = some v) : ∃ x, w.cell? ⟨b, i, none⟩ = some x ∧ VRel R v x := by
  obtain ⟨C, e, fz, h1, h2, h3, h4, h5⟩ := h
  obtain ⟨x, hx, hr⟩ := h4.get hv
  have hi : i < B.length := (List.getElem?_eq_some_iff.1 hv).1
  refine ⟨x, ?_, hr⟩
  rw [List.getElem?_take_of_lt hi] at hx
  simpa [World.cell?, h1] using hx
theorem BRel.there {R : Rho} {B : List AV} {w : World} {b T : Nat} (h : BRel R B w b T) {o n : Nat} (hn : o + n ≤ T) : w.there b o n := by
  obtain ⟨C, e, fz, h1, h2, h3, h4, h5⟩ := h
  intro j hj
  have := h5 (o + j) (by omega)
  refine ⟨?_, ?_⟩
  · simp [World.cell?, h1]; omega
  · simpa [World.frozen?, h1] using this
theorem Inv.glo_below {R : Rho} {s : AS} {w w' : World} {f b : Nat} (h : Inv R s w f b) {g : Nat} {B : List AV} (hg : look g s.gl = some B) (hb : Below b w w') : g < b ∧ ∀ i v, B[i]? = some v → ∃ u, v = .lit u ∧ w'.cell? ⟨g, i, none⟩ = some u :=
  ⟨(h.glo hg).1, fun i v hv => let ⟨u, e, hc⟩ := (h.glo hg).2 i v hv; ⟨u, e, (hb.cell (p := ⟨g, i, none⟩) (h.glo hg).1).trans hc⟩⟩
theorem Inv.same {R : Rho} {s : AS} {w w' : World} {f b : Nat} (h : Inv R s w f b) (he : w'.heap = w.heap) : Inv R s w' f b :=
  ⟨⟨h.rel.fn, fun r => by rw [he]; exact h.rel.dom r, h.rel.inj, fun hk => let ⟨b, T, r, q⟩ := h.rel.blk hk; ⟨b, T, r, q.of_block (by rw [he])⟩⟩, by rw [he]; exact h.hb, h.hf, h.own, fun {g B} hg => ⟨(h.glo hg).1, fun i v hv => let ⟨u, e, hc⟩ := (h.glo hg).2 i v hv; ⟨u, e, (World.cell?_of_block (a := ⟨g, i, none⟩) (show w'.heap[g]? = w.heap[g]? by rw [he])).trans hc⟩⟩, h.kgl⟩
theorem WRel.below {R : Rho} {s : AS} {w w' : World} (h : WRel R s w) (hb : Below w.heap.size w w') : WRel R s w' :=
  ⟨h.fn, fun r => ⟨(h.dom r).1, Nat.lt_of_lt_of_le (h.dom r).2 hb.size⟩, h.inj, fun hk => let ⟨b, T, r, q⟩ := h.blk hk; ⟨b, T, r, q.of_block (hb.block b (h.dom r).2)⟩⟩
theorem Inv.globs {R : Rho} {s : AS} {w : World} {f b : Nat} (h : Inv R s w f b) : Globs Env.gl w := fun g B hB => by
  rw [← h.kgl] at hB
  obtain ⟨h1, h2⟩ := h.glo hB
  exact ⟨Nat.lt_of_lt_of_le h1 h.hb, h2⟩
structure Went (R R' : Rho) (s s' : AS) (w w' : World) (floor base : Nat) : Prop where
  ext : Ext R R'
  old : ∀ {k b T}, R' k b T → k < s.n → R k b T
  num : s.n ≤ s'.n
  keep : ∀ k, k < floor → look k s'.h = look k s.h
  inv : Inv R' s' w' floor base
  below : Below base w w'
  fresh : ∀ {k b T}, R' k b T → (∃ k0 T0, R k0 b T0) ∨ w.heap.size ≤ b
  more : ∀ k ∈ s.wr, k ∈ s'.wr
  wrote : ∀ {k b T B}, look k s.h = some B → R k b T → k ∉ s'.wr → w'.heap[b]? = w.heap[b]? ∧ look k s'.h = look k s.h
  other : ∀ b, b < w.heap.size → (∀ k T, ¬ R' k b T) → w'.heap[b]? = w.heap[b]?
theorem hasN_iff {l : List Nat} {k : Nat} : hasN l k = true ↔ k ∈ l := by
  induction l with
  | nil => exact ⟨fun h => (by cases h), fun h => (by cases h)⟩
  | cons a l ih =>
    show (Bool.rec (hasN l k) true (Nat.beq a k) : Bool) = true ↔ _
    cases hb : Nat.beq a k with
    | true => have := Nat.eq_of_beq_eq_true hb; subst this; simp
    | false =>
      have := Nat.ne_of_beq_eq_false hb
      rw [List.mem_cons]
      exact ⟨fun h => .inr (ih.1 h), fun h => h.elim (fun e => absurd e.symm this) ih.2⟩
theorem addW_iff {l : List Nat} {k j : Nat} : j ∈ addW k l ↔ j = k ∨ j ∈ l := by
  unfold addW
  split
  · rename_i h
    have := hasN_iff.1 h
    exact ⟨.inr, fun h => h.elim (fun e => e ▸ this) id⟩
  · exact List.mem_cons
theorem unionW_iff {l m : List Nat} {j : Nat} : j ∈ unionW l m ↔ j ∈ l ∨ j ∈ m := by
  induction l with
  | nil => exact ⟨.inr, fun h => h.elim (fun h => by cases h) id⟩
  | cons a l ih =>
    show j ∈ addW a (unionW l m) ↔ _
    rw [addW_iff, ih, List.mem_cons, or_assoc]
theorem oldW_iff {n : Nat} {l : List Nat} {j : Nat} : j ∈ oldW n l ↔ j ∈ l ∧ j < n := by
  induction l with
  | nil => exact ⟨fun h => (by cases h), fun h => (by cases h.1)⟩
  | cons a l ih =>
    show j ∈ (Bool.rec (a :: oldW n l) (oldW n l) (Nat.ble n a) : List Nat) ↔ _
    cases hb : Nat.ble n a with
    | true =>
      have := Nat.le_of_ble_eq_true hb
      rw [List.mem_cons]
      exact ⟨fun h => ⟨.inr (ih.1 h).1, (ih.1 h).2⟩, fun ⟨h, h2⟩ => h.elim (fun e => by omega) (fun h => ih.2 ⟨h, h2⟩)⟩
    | false =>
      have : ¬ n ≤ a := fun h => by rw [Nat.ble_eq_true_of_le h] at hb; cases hb
      show j ∈ a :: oldW n l ↔ _
      rw [List.mem_cons, List.mem_cons, ih]
      exact ⟨fun h => h.elim (fun e => ⟨.inl e, by omega⟩) (fun h => ⟨.inr h.1, h.2⟩), fun ⟨h, h2⟩ => h.elim .inl (fun h => .inr ⟨h, h2⟩)⟩
theorem Went.refl {R : Rho} {s : AS} {w : World} {f b : Nat} (h : Inv R s w f b) : Went R R s s w w f b := ⟨Ext.refl _, fun r _ => r, Nat.le_refl _, fun _ _ => rfl, h, Below.refl _ _, fun r => .inl ⟨_, _, r⟩, fun _ h => h, fun _ _ _ => ⟨rfl, rfl⟩, fun _ _ _ => rfl⟩
theorem Went.trans {R R' R'' : Rho} {s s' s'' : AS} {w w' w'' : World} {f b : Nat} (h : Went R R' s s' w w' f b) (h' : Went R' R'' s' s'' w' w'' f b) : Went R R'' s s'' w w'' f b :=
  ⟨h.ext.trans h'.ext, fun r hk => h.old (h'.old r (Nat.lt_of_lt_of_le hk h.num)) hk, Nat.le_trans h.num h'.num, fun k hk => (h'.keep k hk).trans (h.keep k hk), h'.inv, h.below.trans h'.below, fun r => by
    rcases h'.fresh r with ⟨k0, T0, r0⟩ | hb
    · exact h.fresh r0
    · exact .inr (Nat.le_trans h.below.size hb), fun k hk => h'.more k (h.more k hk), fun hk r hn => by
    obtain ⟨a1, a2⟩ := h.wrote hk r (fun hc => hn (h'.more _ hc))
    obtain ⟨b1, b2⟩ := h'.wrote (a2.trans hk) (h.ext _ _ _ r) hn
    exact ⟨b1.trans a1, b2.trans a2⟩, fun b hb hn => (h'.other b (Nat.lt_of_lt_of_le hb h.below.size) hn).trans (h.other b hb (fun k T r => hn k T (h'.ext _ _ _ r)))⟩
theorem Inv.new {R : Rho} {s : AS} {w w2 : World} {f b : Nat} (h : Inv R s w f b) {B : List AV} {C : Array Value} {e : TypeId} {fz : Nat × Nat} (hw : w2.heap = w.heap.push (.cells C e fz))
    (ho : w2.os = w.os ∧ w2.tape = w.tape ∧ w2.output = w.output) (hB : VRels R B (C.toList.take B.length)) (hl : B.length ≤ C.size) (hfz : ∀ i, i < C.size → (decide (fz.1 ≤ i) && decide (i < fz.2)) = false) :
    ∃ R', R' s.n w.heap.size C.size ∧ Went R R' s (newB s B) w w2 f b ∧ Below w.heap.size w w2 := by
  have hsz : w2.heap.size = w.heap.size + 1 := by rw [hw]; simp
  have hbl : Below w.heap.size w w2 := ⟨ho.1, ho.2.1, ho.2.2, by omega, fun k hk => by rw [hw, Array.getElem?_push, if_neg (by omega)]⟩
  let R' : Rho := fun k b T => R k b T ∨ (k = s.n ∧ b = w.heap.size ∧ T = C.size)
  have hx : Ext R R' := fun _ _ _ r => .inl r
  have hf := h.hf
  have hlook : ∀ {k B1}, look k (newB s B).h = some B1 → (k = s.n ∧ B1 = B) ∨ (k ≠ s.n ∧ look k s.h = some B1) := by
    intro k B1 h1
    change look k ((s.n, B) :: s.h) = _ at h1
    rw [look_cons] at h1
    split at h1
    · rename_i hk
      injection h1 with h1
      exact .inl ⟨hk.symm, h1.symm⟩
    · rename_i hk
      exact .inr ⟨fun e => hk e.symm, h1⟩
  refine ⟨R', .inr ⟨rfl, rfl, rfl⟩, ⟨hx, ?_, by show s.n ≤ s.n + 1; omega, ?_, ⟨⟨?_, ?_, ?_, ?_⟩, ?_, by show f ≤ s.n + 1; omega, ?_, fun hg => h.glo_below hg (hbl.mono h.hb), h.kgl⟩, hbl.mono h.hb, fun r => by
    rcases r with r | ⟨_, rfl, _⟩
    · exact .inl ⟨_, _, r⟩
    · exact .inr (Nat.le_refl _), fun _ h => h, fun {k b T B1} hk r _ => ⟨hbl.block b (h.rel.dom r).2, by
      have := (h.rel.dom r).1
      show look k ((s.n, B) :: s.h) = _
      rw [look_cons, if_neg (by omega)]⟩, fun b hb _ => hbl.block b hb⟩, hbl⟩
  · rintro k b T (r | ⟨rfl, rfl, rfl⟩) hk
    · exact r
    · omega
  · intro k hk
    show look k ((s.n, B) :: s.h) = _
    rw [look_cons, if_neg (by show ¬ s.n = k; omega)]
  · rintro k b T b' T' (r | ⟨rfl, rfl, rfl⟩) (r' | ⟨e1, rfl, rfl⟩)
    · exact h.rel.fn r r'
    · have := (h.rel.dom r).1; omega
    · have := (h.rel.dom r').1; omega
    · exact ⟨rfl, rfl⟩
  · rintro k b T (r | ⟨rfl, rfl, rfl⟩)
    · have := h.rel.dom r
      exact ⟨by show k < s.n + 1; omega, by omega⟩
    · exact ⟨by show s.n < s.n + 1; omega, by omega⟩
  · rintro k k' b T T' B1 B2 h1 h2 (r | ⟨rfl, rfl, rfl⟩) (r' | ⟨e1, e2, e3⟩)
    · have hk := (h.rel.dom r).1
      have hk' := (h.rel.dom r').1
      rcases hlook h1 with ⟨e, _⟩ | ⟨_, h1⟩
      · omega
      rcases hlook h2 with ⟨e, _⟩ | ⟨_, h2⟩
      · omega
      exact h.rel.inj h1 h2 r r'
    · have := (h.rel.dom r).2; omega
    · have := (h.rel.dom r').2; omega
    · exact e1.symm
  · intro k B1 h1
    rcases hlook h1 with ⟨rfl, rfl⟩ | ⟨_, h1⟩
    · exact ⟨w.heap.size, C.size, .inr ⟨rfl, rfl, rfl⟩, C, e, fz, by rw [hw]; simp, rfl, hl, hB.ext hx, hfz⟩
    · obtain ⟨b, T, r, q⟩ := h.rel.blk h1
      exact ⟨b, T, .inl r, (q.ext hx).of_block (hbl.block b (h.rel.dom r).2)⟩
  · have := h.hb
    omega
  · rintro k b T (r | ⟨rfl, rfl, rfl⟩) hf
    · exact h.own r hf
    · exact h.hb
theorem setCells_heap_same (b : Nat) : ∀ (vs : List Value) (o : Nat) (w : World) (C : Array Value) (e : TypeId) (fz : Nat × Nat), w.heap[b]? = some (.cells C e fz) → o + vs.length ≤ C.size →
    ∃ C', (w.setCells b o vs).heap[b]? = some (.cells C' e fz) ∧ C'.size = C.size ∧ C'.toList = C.toList.take o ++ vs ++ C.toList.drop (o + vs.length)
  | [], o, w, C, e, fz, h, hl => ⟨C, h, rfl, by simp⟩
  | v :: vs, o, w, C, e, fz, h, hl => by
    have hl' : o + (vs.length + 1) ≤ C.size := hl
    have h1 : (w.setCell ⟨b, o, none⟩ v).heap[b]? = some (.cells (C.setIfInBounds o v) e fz) := by
      simp [World.setCell, Array.getElem?_modify, h]
    obtain ⟨C', h2, h3, h4⟩ := setCells_heap_same b vs (o + 1) _ (C.setIfInBounds o v) e fz h1 (by simp; omega)
    refine ⟨C', h2, by rw [h3]; simp, ?_⟩
    rw [h4, Array.toList_setIfInBounds, List.length_cons]
    apply List.ext_getElem?
    intro i
    simp only [List.getElem?_append, List.length_append, List.length_take, List.length_set, List.length_cons, List.getElem?_take, List.getElem?_set, List.getElem?_drop, Array.length_toList]
    rcases Nat.lt_trichotomy i o with hi | hi | hi
    · rw [if_pos (by omega), if_pos (by omega), if_pos (by omega), if_neg (by omega), if_pos (by omega), if_pos (by omega), if_pos (by omega)]
    · subst hi
      rw [if_pos (by omega), if_pos (by omega), if_pos (by omega), if_pos rfl, if_pos (by omega), if_pos (by omega), if_neg (by omega)]
      simp [Nat.min_eq_left (show i ≤ C.size by omega)]
    · by_cases hi2 : i < o + 1 + vs.length
      · rw [if_pos (by omega), if_neg (by omega), if_pos (by omega), if_neg (by omega)]
        rw [Nat.min_eq_left (by omega), Nat.min_eq_left (by omega), show i - o = (i - (o + 1)) + 1 by omega, List.getElem?_cons_succ]
      · rw [if_neg (by omega), if_neg (by omega)]
        rw [if_neg (by omega)]
        congr 1
        omega
theorem setCells_size (b : Nat) : ∀ (vs : List Value) (o : Nat) (w : World), (w.setCells b o vs).heap.size = w.heap.size
  | [], o, w => rfl
  | v :: vs, o, w => by rw [World.setCells, setCells_size b vs (o + 1)]; simp [World.setCell]
theorem setCells_rest (b : Nat) : ∀ (vs : List Value) (o : Nat) (w : World), (w.setCells b o vs).os = w.os ∧ (w.setCells b o vs).tape = w.tape ∧ (w.setCells b o vs).output = w.output
  | [], o, w => ⟨rfl, rfl, rfl⟩
  | v :: vs, o, w => by rw [World.setCells]; exact setCells_rest b vs (o + 1) _
theorem setCells_heap_ne (b : Nat) : ∀ (vs : List Value) (o : Nat) (w : World) (k : Nat), k ≠ b → (w.setCells b o vs).heap[k]? = w.heap[k]?
  | [], o, w, k, hk => rfl
  | v :: vs, o, w, k, hk => by
    rw [World.setCells, setCells_heap_ne b vs (o + 1) _ k hk]
    exact Below.heap_setCell _ _ _ _ hk
theorem setCells_below {b base : Nat} (w : World) (o : Nat) (vs : List Value) (hb : base ≤ b) : Below base w (w.setCells b o vs) :=
  ⟨(setCells_rest b vs o w).1, (setCells_rest b vs o w).2.1, (setCells_rest b vs o w).2.2, by rw [setCells_size]; exact Nat.le_refl _, fun k hk => setCells_heap_ne b vs o w k (by omega)⟩
theorem Inv.put {R : Rho} {s : AS} {w : World} {f base : Nat} (h : Inv R s w f base) {k b T o : Nat} {B vs : List AV} {xs : List Value} (hk : look k s.h = some B) (r : R k b T)
    (hv : VRels R vs xs) (hl : o + vs.length ≤ B.length) (hfl : f ≤ k) :
    Inv R ⟨s.n, upd k (B.take o ++ vs ++ B.drop (o + vs.length)) s.h, addW k s.wr, s.gl⟩ (w.setCells b o xs) f base := by
  have hxl := hv.length
  refine ⟨⟨h.rel.fn, fun r => by rw [setCells_size]; exact h.rel.dom r, ?_, ?_⟩, by rw [setCells_size]; exact h.hb, h.hf, h.own, fun hg => h.glo_below hg (setCells_below w o xs (h.own r hfl)), h.kgl⟩
  · intro k1 k2 b1 T1 T2 B1 B2 h1 h2 r1 r2
    obtain ⟨B1', h1'⟩ := look_upd_some hk h1
    obtain ⟨B2', h2'⟩ := look_upd_some hk h2
    exact h.rel.inj h1' h2' r1 r2
  · intro j B1 h1
    by_cases hj : j = k
    · subst hj
      change look j (upd j _ s.h) = _ at h1
      rw [look_upd_same hk] at h1
      injection h1 with h1
      subst h1
      obtain ⟨b', T', r', C, e, fz, hC, hT, hBl, hBr, hfz⟩ := h.rel.blk hk
      obtain ⟨rfl, rfl⟩ := h.rel.fn r r'
      obtain ⟨C', h2, h3, h4⟩ := setCells_heap_same b xs o w C e fz hC (by omega)
      have hlen : (B.take o ++ vs ++ B.drop (o + vs.length)).length = B.length := by
        simp only [List.length_append, List.length_take, List.length_drop]; omega
      refine ⟨b, T, r, C', e, fz, h2, by omega, by omega, ?_, hfz⟩
      rw [hlen, h4]
      have e1 : (C.toList.take o ++ xs ++ C.toList.drop (o + xs.length)).take B.length = (C.toList.take B.length).take o ++ xs ++ (C.toList.take B.length).drop (o + vs.length) := by
        have hcl : B.length ≤ C.toList.length := by simp; omega
        apply List.ext_getElem?
        intro i
        simp only [List.getElem?_take, List.getElem?_append, List.length_append, List.length_take, List.getElem?_drop, hxl]
        by_cases hi : i < B.length
        · rw [if_pos hi, Nat.min_eq_left (show o ≤ C.toList.length by omega), Nat.min_eq_left (show o ≤ min B.length C.toList.length by omega)]
          by_cases hi2 : i < o + vs.length
          · rw [if_pos hi2, if_pos hi2]
            split
            · first | rfl | rw [if_pos (by omega), if_pos (by omega), if_pos (by omega)] | rw [if_pos (by omega), if_pos (by omega)] | rw [if_pos (by omega)]
            · rfl
          · rw [if_neg hi2, if_neg hi2, if_pos (by omega)]
        · rw [if_neg hi, Nat.min_eq_left (show o ≤ min B.length C.toList.length by omega)]
          rw [if_neg (by omega), if_neg (by omega)]
      rw [e1]
      exact ((hBr.take o).append hv).append (hBr.drop _)
    · change look j (upd k _ s.h) = _ at h1
      rw [look_upd_ne hj] at h1
      obtain ⟨b', T', r', q⟩ := h.rel.blk h1
      refine ⟨b', T', r', q.of_block (setCells_heap_ne b xs o w b' ?_)⟩
      rintro rfl
      exact hj (h.rel.inj h1 hk r' r)
theorem Inv.move {R : Rho} {s : AS} {w : World} {f base : Nat} (h : Inv R s w f base) {k b T o : Nat} {B new : List AV} {xs : List Value} (hk : look k s.h = some B) (r : R k b T)
    (hv : VRels R new xs) (ho : o ≤ B.length) (hl : o + new.length ≤ T) (hfl : f ≤ k) :
    ∃ R', R' s.n b T ∧ Went R R' s (newB ⟨s.n, kill k s.h, addW k s.wr, s.gl⟩ (B.take o ++ new)) w (w.setCells b o xs) f base := by
  have hxl := hv.length
  have hks := (h.rel.dom r).1
  let R' : Rho := fun j c U => R j c U ∨ (j = s.n ∧ c = b ∧ U = T)
  have hx : Ext R R' := fun _ _ _ r => .inl r
  have hf := h.hf
  have hlook : ∀ {j B1}, look j (newB ⟨s.n, kill k s.h, addW k s.wr, s.gl⟩ (B.take o ++ new)).h = some B1 → (j = s.n ∧ B1 = B.take o ++ new) ∨ (j ≠ s.n ∧ j ≠ k ∧ look j s.h = some B1) := by
    intro j B1 h1
    change look j ((s.n, B.take o ++ new) :: kill k s.h) = _ at h1
    rw [look_cons] at h1
    split at h1
    · rename_i hj
      injection h1 with h1
      exact .inl ⟨hj.symm, h1.symm⟩
    · rename_i hj
      obtain ⟨h2, h3⟩ := look_kill_some h1
      exact .inr ⟨fun e => hj e.symm, h2, h3⟩
  refine ⟨R', .inr ⟨rfl, rfl, rfl⟩, ⟨hx, ?_, by show s.n ≤ s.n + 1; omega, ?_, ⟨⟨?_, ?_, ?_, ?_⟩, by rw [setCells_size]; exact h.hb, by show f ≤ s.n + 1; omega, ?_, fun hg => h.glo_below hg (setCells_below w o xs (h.own r hfl)), h.kgl⟩, setCells_below w o xs (h.own r hfl), fun r1 => by
    rcases r1 with r1 | ⟨_, rfl, _⟩
    · exact .inl ⟨_, _, r1⟩
    · exact .inl ⟨_, _, r⟩, fun _ h => addW_iff.2 (.inr h), fun {j b1 T1 B1} hj r1 hn => by
      have hjk : j ≠ k := fun e => hn (addW_iff.2 (.inl e))
      have := (h.rel.dom r1).1
      refine ⟨setCells_heap_ne _ _ _ _ _ (fun e => hjk (h.rel.inj hj hk (e ▸ r1) r)), ?_⟩
      show look j ((s.n, _) :: kill k s.h) = _
      rw [look_cons, if_neg (by omega), look_kill_ne hjk], fun b1 _ hn => setCells_heap_ne _ _ _ _ _ (fun e => hn k T (.inl (e ▸ r)))⟩⟩
  · rintro j c U (r1 | ⟨rfl, rfl, rfl⟩) hj
    · exact r1
    · omega
  · intro j hj
    show look j ((s.n, B.take o ++ new) :: kill k s.h) = _
    rw [look_cons, if_neg (by show ¬ s.n = j; omega), look_kill_ne (by omega)]
  · rintro j c U c' U' (r1 | ⟨e1, e2, e3⟩) (r2 | ⟨e4, e5, e6⟩)
    · exact h.rel.fn r1 r2
    · have := (h.rel.dom r1).1; omega
    · have := (h.rel.dom r2).1; omega
    · exact ⟨e2.trans e5.symm, e3.trans e6.symm⟩
  · rintro j c U (r1 | ⟨e1, e2, e3⟩)
    · have := h.rel.dom r1
      rw [setCells_size]
      exact ⟨by show j < s.n + 1; omega, this.2⟩
    · have := h.rel.dom r
      rw [setCells_size]
      exact ⟨by show j < s.n + 1; omega, by omega⟩
  · rintro j j' c U U' B1 B2 h1 h2 (r1 | ⟨e1, e2, e3⟩) (r2 | ⟨e4, e5, e6⟩)
    · have hj := (h.rel.dom r1).1
      have hj' := (h.rel.dom r2).1
      rcases hlook h1 with ⟨e, _⟩ | ⟨_, _, h1⟩
      · omega
      rcases hlook h2 with ⟨e, _⟩ | ⟨_, _, h2⟩
      · omega
      exact h.rel.inj h1 h2 r1 r2
    · have hj := (h.rel.dom r1).1
      rcases hlook h1 with ⟨e, _⟩ | ⟨_, hjk, h1⟩
      · omega
      · subst e5; exact absurd (h.rel.inj h1 hk r1 r) hjk
    · have hj := (h.rel.dom r2).1
      rcases hlook h2 with ⟨e, _⟩ | ⟨_, hjk, h2⟩
      · omega
      · subst e2; exact absurd (h.rel.inj h2 hk r2 r) hjk
    · exact e1.trans e4.symm
  · intro j B1 h1
    rcases hlook h1 with ⟨rfl, rfl⟩ | ⟨_, hjk, h1⟩
    · obtain ⟨b', T', r', C, e, fz, hC, hT, hBl, hBr, hfz⟩ := h.rel.blk hk
      obtain ⟨rfl, rfl⟩ := h.rel.fn r r'
      obtain ⟨C', h2, h3, h4⟩ := setCells_heap_same b xs o w C e fz hC (by omega)
      have hlen : (B.take o ++ new).length = o + new.length := by simp only [List.length_append, List.length_take]; omega
      refine ⟨b, T, .inr ⟨rfl, rfl, rfl⟩, C', e, fz, h2, by omega, by omega, ?_, hfz⟩
      rw [hlen, h4]
      have e1 : (C.toList.take o ++ xs ++ C.toList.drop (o + xs.length)).take (o + new.length) = (C.toList.take B.length).take o ++ xs := by
        have hc : (C.toList.take o).length = o := by simp; omega
        rw [List.take_append_of_le_length (by simp; omega), List.take_of_length_le (by simp; omega), List.take_take, Nat.min_eq_left ho]
      rw [e1]
      exact ((hBr.take o).append hv).ext hx
    · obtain ⟨b', T', r', q⟩ := h.rel.blk h1
      exact ⟨b', T', .inl r', (q.ext hx).of_block (setCells_heap_ne b xs o w b' (fun e => hjk (h.rel.inj h1 hk (e ▸ r') r)))⟩
  · rintro j c U (r1 | ⟨e1, e2, e3⟩) hj
    · exact h.own r1 hj
    · subst e2; exact h.own r hfl
theorem Inv.put_went {R : Rho} {s : AS} {w : World} {f base : Nat} (h : Inv R s w f base) {k b T o : Nat} {B vs : List AV} {xs : List Value} (hk : look k s.h = some B) (r : R k b T)
    (hv : VRels R vs xs) (hl : o + vs.length ≤ B.length) (hfl : f ≤ k) :
    Went R R s ⟨s.n, upd k (B.take o ++ vs ++ B.drop (o + vs.length)) s.h, addW k s.wr, s.gl⟩ w (w.setCells b o xs) f base :=
  ⟨Ext.refl _, fun r _ => r, Nat.le_refl _, fun j hj => look_upd_ne (by omega), h.put hk r hv hl hfl, setCells_below w o xs (h.own r hfl), fun r => .inl ⟨_, _, r⟩, fun _ h => addW_iff.2 (.inr h), fun {j b1 T1 B1} hj r1 hn => by
    have hjk : j ≠ k := fun e => hn (addW_iff.2 (.inl e))
    exact ⟨setCells_heap_ne _ _ _ _ _ (fun e => hjk (h.rel.inj hj hk (e ▸ r1) r)), look_upd_ne hjk⟩, fun b1 _ hn => setCells_heap_ne _ _ _ _ _ (fun e => hn k T (e ▸ r))⟩
theorem Inv.wr_ {R : Rho} {s : AS} {w : World} {f b : Nat} (h : Inv R s w f b) (x : List Nat) : Inv R ⟨s.n, s.h, x, s.gl⟩ w f b := ⟨⟨h.rel.fn, h.rel.dom, h.rel.inj, h.rel.blk⟩, h.hb, h.hf, h.own, h.glo, h.kgl⟩
theorem Went.merge {R R' : Rho} {s s' : AS} {w w' : World} {f b : Nat} (h : Went R R' ⟨s.n, s.h, [], s.gl⟩ s' w w' f b) : Went R R' s ⟨s'.n, s'.h, unionW s'.wr s.wr, s'.gl⟩ w w' f b :=
  ⟨h.ext, h.old, h.num, h.keep, h.inv.wr_ _, h.below, h.fresh, fun _ hk => unionW_iff.2 (.inr hk), fun hk r hn => h.wrote hk r (fun hc => hn (unionW_iff.2 (.inl hc))), h.other⟩
theorem Inv.adopt {R : Rho} {s : AS} {w : World} {f base : Nat} (h : Inv R s w f base) {B : List AV} {C : Array Value} {e : TypeId} {fz : Nat × Nat} {p : Nat} (hp : w.heap[p]? = some (.cells C e fz)) (hpb : base ≤ p) (hno : ∀ k T, ¬ R k p T)
    (hB : VRels R B (C.toList.take B.length)) (hl : B.length ≤ C.size) (hfz : ∀ i, i < C.size → (decide (fz.1 ≤ i) && decide (i < fz.2)) = false) :
    Inv (fun k b T => R k b T ∨ (k = s.n ∧ b = p ∧ T = C.size)) (newB s B) w f base := by
  have hps : p < w.heap.size := by
    rcases Nat.lt_or_ge p w.heap.size with c | c
    · exact c
    · rw [Array.getElem?_eq_none c] at hp; cases hp
  have hx : Ext R (fun k b T => R k b T ∨ (k = s.n ∧ b = p ∧ T = C.size)) := fun _ _ _ r => .inl r
  have hf := h.hf
  have hlook : ∀ {k B1}, look k (newB s B).h = some B1 → (k = s.n ∧ B1 = B) ∨ (k ≠ s.n ∧ look k s.h = some B1) := by
    intro k B1 h1
    change look k ((s.n, B) :: s.h) = _ at h1
    rw [look_cons] at h1
    split at h1
    · rename_i hk
      injection h1 with h1
      exact .inl ⟨hk.symm, h1.symm⟩
    · rename_i hk
      exact .inr ⟨fun e => hk e.symm, h1⟩
  refine ⟨⟨?_, ?_, ?_, ?_⟩, h.hb, by show f ≤ s.n + 1; omega, ?_, h.glo, h.kgl⟩
  · rintro k b T b' T' (r | ⟨rfl, rfl, rfl⟩) (r' | ⟨e1, rfl, rfl⟩)
    · exact h.rel.fn r r'
    · have := (h.rel.dom r).1; omega
    · have := (h.rel.dom r').1; omega
    · exact ⟨rfl, rfl⟩
  · rintro k b T (r | ⟨rfl, rfl, rfl⟩)
    · have := h.rel.dom r
      exact ⟨by show k < s.n + 1; omega, this.2⟩
    · exact ⟨by show s.n < s.n + 1; omega, hps⟩
  · rintro k k' b T T' B1 B2 h1 h2 (r | ⟨rfl, rfl, rfl⟩) (r' | ⟨e1, e2, e3⟩)
    · have hk := (h.rel.dom r).1
      have hk' := (h.rel.dom r').1
      rcases hlook h1 with ⟨e, _⟩ | ⟨_, h1⟩
      · omega
      rcases hlook h2 with ⟨e, _⟩ | ⟨_, h2⟩
      · omega
      exact h.rel.inj h1 h2 r r'
    · subst e2; exact absurd r (hno _ _)
    · exact absurd r' (hno _ _)
    · exact e1.symm
  · intro k B1 h1
    rcases hlook h1 with ⟨rfl, rfl⟩ | ⟨_, h1⟩
    · exact ⟨p, C.size, .inr ⟨rfl, rfl, rfl⟩, C, e, fz, hp, rfl, hl, hB.ext hx, hfz⟩
    · obtain ⟨b, T, r, q⟩ := h.rel.blk h1
      exact ⟨b, T, .inl r, q.ext hx⟩
  · rintro k b T (r | ⟨rfl, rfl, rfl⟩) hk
    · exact h.own r hk
    · exact hpb
end Go.Proofs.YtmjjodficjjehabGreatDoor
