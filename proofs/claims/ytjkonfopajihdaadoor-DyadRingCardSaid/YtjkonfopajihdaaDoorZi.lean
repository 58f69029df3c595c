/- Texts put together: D1 D2 D3 D4 D5 D8 D9 DM. -/
import Derived.Test.YtjkonfopajihdaaDoorZb
import Derived.Test.YtjkonfopajihdaaDoorZc
import Derived.BigQuiet
set_option linter.unusedSimpArgs false
set_option linter.unusedVariables false
namespace Go.Proofs.YtjkonfopajihdaaDoor
open Go Go.RowKit Nt

/-- What may be a Dyad. -/
def DOk (g : Bool) (s : ByteArray) (x : Int) : Prop := (s = ⟨#[]⟩ ∧ g = false ∧ x = 0) ∨ ∃ n, fits n ∧ n % 2 = 1 ∧ s = natS n ∧ -1048576 ≤ x ∧ x ≤ 1048576
theorem dFull {s : ByteArray} (h : 0 < s.size) : ¬ s.toList = [] := fun c => by
  rw [ba_toList] at c
  have : s.data.toList.length = 0 := by rw [c]; rfl
  rw [Array.length_toList] at this
  have h2 : s.size = s.data.size := rfl
  omega
theorem dFull2 {s : ByteArray} (h : 0 < s.size) : s.toList.isEmpty = false := by
  have := dFull h
  cases h2 : s.toList with
  | nil => exact absurd h2 this
  | cons x l => rfl
theorem ba_nil {s : ByteArray} (h : s.size = 0) : s = ⟨#[]⟩ := by
  obtain ⟨d⟩ := s
  have : d = #[] := Array.eq_empty_of_size_eq_zero h
  rw [this]
theorem last_odd (n : Nat) (h : 0 < (natS n).size) : ((natS n)[(natS n).size - 1]'(by omega)).toNat % 2 = n % 2 := by
  have e := natS_get n ((natS n).size - 1) (by omega)
  rw [e, natS_size, show nd 256 n - 1 - (nd 256 n - 1) = 0 by omega, dgt_def, Nat.pow_zero, Nat.div_one]
  omega
theorem odd_ne {n : Nat} (h : n % 2 = 1) : n ≠ 0 := fun c => by rw [c] at h; omega
theorem odd_size {n : Nat} (h : n % 2 = 1) : 0 < (natS n).size := by
  rw [natS_size]
  rcases Nat.eq_zero_or_pos (nd 256 n) with c | c
  · exact absurd ((nd_eq_zero (by omega)).1 c) (odd_ne h)
  · exact c
/-- Each that may not be, by what Check finds. -/
theorem dbad {g : Bool} {s : ByteArray} {x : Int} (h : ¬ DOk g s x) :
    (s = ⟨#[]⟩ ∧ (g = true ∨ x ≠ 0)) ∨ ∃ hs : 0 < s.size, (s[s.size - 1]'(by omega)).toNat % 2 = 0 ∨ ((s[s.size - 1]'(by omega)).toNat % 2 = 1 ∧ (¬ May s ∨ (May s ∧ (x < -1048576 ∨ 1048576 < x)))) := by
  by_cases h0 : s.size = 0
  · refine Or.inl ⟨ba_nil h0, ?_⟩
    cases g with
    | true => exact Or.inl rfl
    | false => exact Or.inr fun c => h (Or.inl ⟨ba_nil h0, rfl, c⟩)
  · refine Or.inr ⟨by omega, ?_⟩
    by_cases h1 : (s[s.size - 1]'(by omega)).toNat % 2 = 0
    · exact Or.inl h1
    · refine Or.inr ⟨by omega, ?_⟩
      by_cases hm : May s
      · refine Or.inr ⟨hm, ?_⟩
        by_cases h2 : x < -1048576
        · exact Or.inl h2
        · by_cases h3 : 1048576 < x
          · exact Or.inr h3
          · obtain ⟨n, hf, rfl⟩ := may_num hm
            have := last_odd n (by omega)
            exact absurd (Or.inr ⟨n, hf, by omega, rfl, by omega, by omega⟩) h
      · exact Or.inl hm
theorem u8_and0 {q : Nat} (hq : q < 256) (h : q % 2 = 0) : bits BinOp.and IntKind.u8 (q : Int) 1 = 0 := by rw [and_one_u8 q hq, h]; rfl
theorem u8_and1 {q : Nat} (hq : q < 256) (h : q % 2 = 1) : bits BinOp.and IntKind.u8 (q : Int) 1 = 1 := by rw [and_one_u8 q hq, h]; rfl
theorem bcell {W w1 : World} (hb : Below W.heap.size W w1) : (∀ b o, b < W.heap.size → w1.cell? ⟨b, o, none⟩ = W.cell? ⟨b, o, none⟩) ∧ (∀ b o, b < W.heap.size → w1.frozen? ⟨b, o, none⟩ = W.frozen? ⟨b, o, none⟩) :=
  ⟨fun b o h => hb.cell (p := ⟨b, o, none⟩) h, fun b o h => hb.frozen (p := ⟨b, o, none⟩) h⟩
theorem box_below {w w1 : World} {b : Obj} (hb : Below (w.alloc b).heap.size (w.alloc b) w1) : Below w.heap.size w w1 := ((Below.refl _ _).alloc (Nat.le_refl _) _).trans (hb.mono (by simp))
set_option maxRecDepth 100000 in
theorem DCheck_zero (w : World) : Calls Tryd.prog 15 #[.agg #[.bool false, .string ⟨#[]⟩, .int .i64 0]] w fun e w' => e = .returned (.int .i64 0) ∧ Below w.heap.size w w' := by
  go_enter Tryd.func15, Tryd.ntmps15
  go_wp2
  go_ret
  exact ⟨rfl, (Below.refl _ _).alloc (Nat.le_refl _) _⟩
theorem last_and (n : Nat) (ho : n % 2 = 1) (h : nd 256 n - 1 < (natS n).size) : bits BinOp.and IntKind.u8 (((natS n)[nd 256 n - 1]'h).toNat : Int) 1 = 1 := by
  refine u8_and1 ((natS n)[nd 256 n - 1]'h).toNat_lt ?_
  have hp := odd_size ho
  have := last_odd n hp
  simp only [natS_size] at this
  rw [this, ho]
set_option maxRecDepth 100000 in
theorem DCheck_num (g : Bool) (n : Nat) (x : Int) (w : World) (hf : fits n) (ho : n % 2 = 1) (h1 : -1048576 ≤ x) (h2 : x ≤ 1048576) :
    Calls Tryd.prog 15 #[.agg #[.bool g, .string (natS n), .int .i64 x]] w fun e w' => e = .returned (.int .i64 0) ∧ Below w.heap.size w w' := by
  have hm := may1 hf
  have hE := natS_full (odd_ne ho)
  have hE2 := natS_full2 (odd_ne ho)
  have hsz := natS_size n
  have hL : nd 256 n ≤ 16384 := hf
  have hp := odd_size ho
  have hl := last_and n ho (by omega)
  have HO := Lib.hid ho
  clear ho
  go_enter Tryd.func15, Tryd.ntmps15
  go_wp2_with (go_at_call 59; refine (Check_c _ _).mono ?_; rintro e w1 ⟨rfl, hb⟩; obtain ⟨hc, hfz⟩ := bcell hb)
  go_ret
  exact ⟨rfl, box_below hb⟩
set_option maxRecDepth 100000 in
theorem DCheck_bad (g : Bool) (s : ByteArray) (x : Int) (w : World) (hs : s.size ≤ 9223372036854775807) (h : ¬ DOk g s x) :
    Calls Tryd.prog 15 #[.agg #[.bool g, .string s, .int .i64 x]] w fun e w' => e = .returned (.int .i64 2) ∧ Below w.heap.size w w' := by
  rcases dbad h with ⟨rfl, hz⟩ | ⟨hp, hz⟩
  · clear h hs
    have hz2 : g = true ∨ (g = false ∧ (x == 0) = false ∧ ¬ x = 0) := by
      rcases hz with rfl | hz
      · exact Or.inl rfl
      · cases g
        · exact Or.inr ⟨rfl, by simpa using hz, hz⟩
        · exact Or.inl rfl
    clear hz
    rcases hz2 with rfl | ⟨rfl, hx, hx2⟩
    all_goals
      go_enter Tryd.func15, Tryd.ntmps15
      go_wp2
      go_ret
      exact ⟨rfl, (Below.refl _ _).alloc (Nat.le_refl _) _⟩
  · have hE := dFull hp
    have hE2 := dFull2 hp
    clear h
    rcases hz with hz | ⟨hz, hm | ⟨hm, hx⟩⟩
    · have hl : bits BinOp.and IntKind.u8 ((s[s.size - 1]'(by omega)).toNat : Int) 1 = 0 := u8_and0 (s[s.size - 1]'(by omega)).toNat_lt hz
      clear hz
      go_enter Tryd.func15, Tryd.ntmps15
      go_wp2
      go_ret
      exact ⟨rfl, (Below.refl _ _).alloc (Nat.le_refl _) _⟩
    · have hl : bits BinOp.and IntKind.u8 ((s[s.size - 1]'(by omega)).toNat : Int) 1 = 1 := u8_and1 (s[s.size - 1]'(by omega)).toNat_lt hz
      have hm' := may1_no hm
      clear hz hm
      go_enter Tryd.func15, Tryd.ntmps15
      go_wp2_with (go_at_call 59; refine (Check_c _ _).mono ?_; rintro e w1 ⟨rfl, hb⟩; obtain ⟨hc, hfz⟩ := bcell hb)
      go_ret
      exact ⟨rfl, box_below hb⟩
    · have hl : bits BinOp.and IntKind.u8 ((s[s.size - 1]'(by omega)).toNat : Int) 1 = 1 := u8_and1 (s[s.size - 1]'(by omega)).toNat_lt hz
      have hm' : mayE [s] = 0 := mayE_ok fun t ht => by rw [List.mem_singleton.1 ht]; exact hm
      clear hz hm
      rcases hx with hx | hx
      all_goals
        go_enter Tryd.func15, Tryd.ntmps15
        go_wp2_with (go_at_call 59; refine (Check_c _ _).mono ?_; rintro e w1 ⟨rfl, hb⟩; obtain ⟨hc, hfz⟩ := bcell hb)
        go_ret
        exact ⟨rfl, box_below hb⟩
end Go.Proofs.YtjkonfopajihdaaDoor
set_option linter.unusedSimpArgs false
set_option linter.unusedVariables false
namespace Go.Proofs.YtjkonfopajihdaaDoor
open Go Go.RowKit Nt

@[irreducible] def sgnI (g : Bool) : Int := if g then -1 else 1
theorem sgn_t : sgnI true = -1 := by unfold sgnI; rfl
theorem sgn_f : sgnI false = 1 := by unfold sgnI; rfl
theorem size_big {B n : Nat} {w w1 : World} (hb : Below n w w1) (h : B < w.heap.size) : B < w1.heap.size := Nat.lt_of_lt_of_le h hb.size
set_option maxRecDepth 100000 in
theorem DSign_zero (w : World) : Calls Tryd.prog 16 #[.agg #[.bool false, .string ⟨#[]⟩, .int .i64 0]] w fun e w' => e = .returned (.int .i64 0) ∧ Below w.heap.size w w' := by
  go_enter Tryd.func16, Tryd.ntmps16
  go_wp2_with (go_at_call 15; refine (DCheck_zero _).mono ?_; rintro e w1 ⟨rfl, hb⟩; obtain ⟨hc, hfz⟩ := bcell hb)
  go_ret
  exact ⟨rfl, box_below hb⟩
set_option maxRecDepth 100000 in
theorem DSign_bad (g : Bool) (s : ByteArray) (x : Int) (w : World) (hs : s.size ≤ 9223372036854775807) (h : ¬ DOk g s x) : Calls Tryd.prog 16 #[.agg #[.bool g, .string s, .int .i64 x]] w fun e w' => e = .returned (.int .i64 0) ∧ Below w.heap.size w w' := by
  have H := Lib.hid h
  clear h
  go_enter Tryd.func16, Tryd.ntmps16
  go_wp2_with (go_at_call 15; refine (DCheck_bad _ _ _ _ hs H.out).mono ?_; rintro e w1 ⟨rfl, hb⟩; obtain ⟨hc, hfz⟩ := bcell hb)
  go_ret
  exact ⟨rfl, box_below hb⟩
set_option maxRecDepth 100000 in
theorem DSign_num (g : Bool) (n : Nat) (x : Int) (w : World) (hf : fits n) (ho : n % 2 = 1) (h1 : -1048576 ≤ x) (h2 : x ≤ 1048576) :
    Calls Tryd.prog 16 #[.agg #[.bool g, .string (natS n), .int .i64 x]] w fun e w' => e = .returned (.int .i64 (sgnI g)) ∧ Below w.heap.size w w' := by
  have hE := natS_full (odd_ne ho)
  have hE2 := natS_full2 (odd_ne ho)
  have HO := Lib.hid ho
  clear ho
  cases g
  all_goals
    go_enter Tryd.func16, Tryd.ntmps16
    go_wp2_with (go_at_call 15; refine (DCheck_num _ _ _ _ hf HO.out h1 h2).mono ?_; rintro e w1 ⟨rfl, hb⟩; obtain ⟨hc, hfz⟩ := bcell hb)
    go_ret
  · exact ⟨by rw [sgn_f]; rfl, box_below hb⟩
  · exact ⟨by rw [sgn_t]; rfl, box_below hb⟩
set_option maxRecDepth 100000 in
theorem DTop_zero (w : World) : Calls Tryd.prog 13 #[.agg #[.bool false, .string ⟨#[]⟩, .int .i64 0]] w fun e w' => e = .returned (.tuple #[.int .i64 0, .bool false]) ∧ Below w.heap.size w w' := by
  go_enter Tryd.func13, Tryd.ntmps13
  go_wp2_with (go_at_call 16; refine (DSign_zero _).mono ?_; rintro e w1 ⟨rfl, hb⟩; obtain ⟨hc, hfz⟩ := bcell hb)
  go_ret2
  exact ⟨rfl, box_below hb⟩
set_option maxRecDepth 100000 in
theorem DTop_bad (g : Bool) (s : ByteArray) (x : Int) (w : World) (hs : s.size ≤ 9223372036854775807) (h : ¬ DOk g s x) : Calls Tryd.prog 13 #[.agg #[.bool g, .string s, .int .i64 x]] w fun e w' => e = .returned (.tuple #[.int .i64 0, .bool false]) ∧ Below w.heap.size w w' := by
  have H := Lib.hid h
  clear h
  go_enter Tryd.func13, Tryd.ntmps13
  go_wp2_with (go_at_call 16; refine (DSign_bad _ _ _ _ hs H.out).mono ?_; rintro e w1 ⟨rfl, hb⟩; obtain ⟨hc, hfz⟩ := bcell hb)
  go_ret2
  exact ⟨rfl, box_below hb⟩
theorem bits_131072' {n : Nat} (h : fits n) : nd 2 n ≤ 131072 := by
  have := (bits_le n 16384).2 h; omega
theorem sgn_ne (g : Bool) : (sgnI g == 0) = false := by cases g <;> simp [sgn_t, sgn_f]
theorem sgn_ne2 (g : Bool) : ¬ sgnI g = 0 := by cases g <;> simp [sgn_t, sgn_f]
set_option maxRecDepth 100000 in
theorem DTop_num (g : Bool) (n : Nat) (x : Int) (w : World) (hf : fits n) (ho : n % 2 = 1) (h1 : -1048576 ≤ x) (h2 : x ≤ 1048576) :
    Calls Tryd.prog 13 #[.agg #[.bool g, .string (natS n), .int .i64 x]] w fun e w' => e = .returned (.tuple #[.int .i64 ((nd 2 n : Nat) - 1 + x), .bool true]) ∧ Below w.heap.size w w' := by
  have HO := Lib.hid ho
  have hb2 := bits_131072' hf
  have hg := sgn_ne g
  have hg2 := sgn_ne2 g
  clear ho
  go_enter Tryd.func13, Tryd.ntmps13
  go_wp2_with (first
    | (go_at_call 16; refine (DSign_num _ _ _ _ hf HO.out h1 h2).mono ?_; rintro e w1 ⟨rfl, hb⟩; obtain ⟨hc, hfz⟩ := bcell hb; have hz : w.heap.size < w1.heap.size := by have := hb.size; simp at this; omega)
    | (go_at_call 58; refine (NLen_c _ _ hf).mono ?_; rintro e w2 ⟨rfl, hb'⟩; obtain ⟨hc', hfz'⟩ := bcell hb'))
  go_ret2
  exact ⟨rfl, (box_below hb).trans (hb'.mono (by omega))⟩
theorem box2 {w w1 : World} {b c : Obj} (hb : Below ((w.alloc b).alloc c).heap.size ((w.alloc b).alloc c) w1) : Below w.heap.size w w1 := (((Below.refl _ _).alloc (Nat.le_refl _) _).alloc (by simp) _).trans (hb.mono (by simp; omega))
theorem sz2 {w w1 : World} {b c : Obj} (hb : Below ((w.alloc b).alloc c).heap.size ((w.alloc b).alloc c) w1) : w.heap.size + 1 < w1.heap.size := by have := hb.size; simp at this; omega
set_option maxRecDepth 100000 in
theorem DNeg_zero (w : World) : Calls Tryd.prog 17 #[.agg #[.bool false, .string ⟨#[]⟩, .int .i64 0]] w fun e w' => e = .returned (.agg #[.bool false, .string ⟨#[]⟩, .int .i64 0]) ∧ Below w.heap.size w w' := by
  go_enter Tryd.func17, Tryd.ntmps17
  go_wp2_with (go_at_call 16; refine (DSign_zero _).mono ?_; rintro e w1 ⟨rfl, hb⟩; obtain ⟨hc, hfz⟩ := bcell hb; have hz := sz2 hb)
  refine bodyPost_ret (v := .agg #[.bool false, .string ⟨#[]⟩, .int .i64 0]) (by simp [results, Tryd.results17, go_sem, hc, hz]) rfl ⟨rfl, ?_⟩
  repeat (refine Below.setCell ?_ (by simp) _)
  exact box2 hb
set_option maxRecDepth 100000 in
theorem DNeg_bad (g : Bool) (s : ByteArray) (x : Int) (w : World) (hs : s.size ≤ 9223372036854775807) (h : ¬ DOk g s x) : Calls Tryd.prog 17 #[.agg #[.bool g, .string s, .int .i64 x]] w fun e w' => e = .returned (.agg #[.bool false, .string ⟨#[]⟩, .int .i64 0]) ∧ Below w.heap.size w w' := by
  have H := Lib.hid h
  clear h
  go_enter Tryd.func17, Tryd.ntmps17
  go_wp2_with (go_at_call 16; refine (DSign_bad _ _ _ _ hs H.out).mono ?_; rintro e w1 ⟨rfl, hb⟩; obtain ⟨hc, hfz⟩ := bcell hb; have hz := sz2 hb)
  refine bodyPost_ret (v := .agg #[.bool false, .string ⟨#[]⟩, .int .i64 0]) (by simp [results, Tryd.results17, go_sem, hc, hz]) rfl ⟨rfl, ?_⟩
  repeat (refine Below.setCell ?_ (by simp) _)
  exact box2 hb
set_option maxRecDepth 100000 in
theorem DNeg_num (g : Bool) (n : Nat) (x : Int) (w : World) (hf : fits n) (ho : n % 2 = 1) (h1 : -1048576 ≤ x) (h2 : x ≤ 1048576) :
    Calls Tryd.prog 17 #[.agg #[.bool g, .string (natS n), .int .i64 x]] w fun e w' => e = .returned (.agg #[.bool (!g), .string (natS n), .int .i64 x]) ∧ Below w.heap.size w w' := by
  have HO := Lib.hid ho
  have hg := sgn_ne g
  have hg2 := sgn_ne2 g
  clear ho
  go_enter Tryd.func17, Tryd.ntmps17
  go_wp2_with (go_at_call 16; refine (DSign_num _ _ _ _ hf HO.out h1 h2).mono ?_; rintro e w1 ⟨rfl, hb⟩; obtain ⟨hc, hfz⟩ := bcell hb; have hz := sz2 hb; have hc0 : w1.cell? ⟨w.heap.size, 0, none⟩ = some (.bool g) := (hc _ _ (by simp; omega)).trans (by simp [go_sem]); have hs0 : (w1.cell? ⟨w.heap.size, 0, none⟩).isSome = true := (by rw [hc0]; rfl))
  refine bodyPost_ret (v := .agg #[.bool (!g), .string (natS n), .int .i64 x]) (by simp [results, Tryd.results17, go_sem, hc, hz]) rfl ⟨rfl, ?_⟩
  repeat (refine Below.setCell ?_ (by simp) _)
  exact box2 hb
set_option maxRecDepth 100000 in
theorem DAbs_zero (w : World) : Calls Tryd.prog 18 #[.agg #[.bool false, .string ⟨#[]⟩, .int .i64 0]] w fun e w' => e = .returned (.agg #[.bool false, .string ⟨#[]⟩, .int .i64 0]) ∧ Below w.heap.size w w' := by
  go_enter Tryd.func18, Tryd.ntmps18
  go_upto_region 3 with (go_at_call 16; refine (DSign_zero _).mono ?_; rintro e w1 ⟨rfl, hb⟩; obtain ⟨hc, hfz⟩ := bcell hb; have hz := sz2 hb)
  go_wp2_with (go_at_call 16; refine (DSign_zero _).mono ?_; rintro e w2 ⟨rfl, hb'⟩; obtain ⟨hc', hfz'⟩ := bcell hb'; have hz' := size_big hb' hz)
  refine bodyPost_ret (v := .agg #[.bool false, .string ⟨#[]⟩, .int .i64 0]) (by simp [results, Tryd.results18, go_sem, hc, hz, hc', hz']) rfl ⟨rfl, ?_⟩
  repeat (refine Below.setCell ?_ (by simp) _)
  exact (box2 hb).trans (hb'.mono (by omega))
set_option maxRecDepth 100000 in
theorem DAbs_bad (g : Bool) (s : ByteArray) (x : Int) (w : World) (hs : s.size ≤ 9223372036854775807) (h : ¬ DOk g s x) : Calls Tryd.prog 18 #[.agg #[.bool g, .string s, .int .i64 x]] w fun e w' => e = .returned (.agg #[.bool false, .string ⟨#[]⟩, .int .i64 0]) ∧ Below w.heap.size w w' := by
  have H := Lib.hid h
  clear h
  go_enter Tryd.func18, Tryd.ntmps18
  go_upto_region 3 with (go_at_call 16; refine (DSign_bad _ _ _ _ hs H.out).mono ?_; rintro e w1 ⟨rfl, hb⟩; obtain ⟨hc, hfz⟩ := bcell hb; have hz := sz2 hb)
  go_wp2_with (go_at_call 16; refine (DSign_bad _ _ _ _ hs H.out).mono ?_; rintro e w2 ⟨rfl, hb'⟩; obtain ⟨hc', hfz'⟩ := bcell hb'; have hz' := size_big hb' hz)
  refine bodyPost_ret (v := .agg #[.bool false, .string ⟨#[]⟩, .int .i64 0]) (by simp [results, Tryd.results18, go_sem, hc, hz, hc', hz']) rfl ⟨rfl, ?_⟩
  repeat (refine Below.setCell ?_ (by simp) _)
  exact (box2 hb).trans (hb'.mono (by omega))
set_option maxRecDepth 100000 in
theorem DAbs_num (g : Bool) (n : Nat) (x : Int) (w : World) (hf : fits n) (ho : n % 2 = 1) (h1 : -1048576 ≤ x) (h2 : x ≤ 1048576) :
    Calls Tryd.prog 18 #[.agg #[.bool g, .string (natS n), .int .i64 x]] w fun e w' => e = .returned (.agg #[.bool false, .string (natS n), .int .i64 x]) ∧ Below w.heap.size w w' := by
  have HO := Lib.hid ho
  clear ho
  cases g
  · have hg := sgn_f
    go_enter Tryd.func18, Tryd.ntmps18
    go_upto_region 3 with (go_at_call 16; refine (DSign_num _ _ _ _ hf HO.out h1 h2).mono ?_; rintro e w1 ⟨rfl, hb⟩; obtain ⟨hc, hfz⟩ := bcell hb; have hz := sz2 hb; have hz0 : w.heap.size < w1.heap.size := (by omega))
    go_wp2_with (go_at_call 16; refine (DSign_num _ _ _ _ hf HO.out h1 h2).mono ?_; rintro e w2 ⟨rfl, hb'⟩; obtain ⟨hc', hfz'⟩ := bcell hb'; have hz' := size_big hb' hz)
    refine bodyPost_ret (v := .agg #[.bool false, .string (natS n), .int .i64 x]) (by simp [results, Tryd.results18, go_sem, hc, hz, hc', hz']) rfl ⟨rfl, ?_⟩
    repeat (refine Below.setCell ?_ (by simp) _)
    exact (box2 hb).trans (hb'.mono (by omega))
  · have hg := sgn_t
    go_enter Tryd.func18, Tryd.ntmps18
    go_wp2_with (first
      | (go_at_call 16; refine (DSign_num _ _ _ _ hf HO.out h1 h2).mono ?_; rintro e w1 ⟨rfl, hb⟩; obtain ⟨hc, hfz⟩ := bcell hb; have hz := sz2 hb; have hz0 : w.heap.size < w1.heap.size := (by omega))
      | (go_at_call 17; refine (DNeg_num _ _ _ _ hf HO.out h1 h2).mono ?_; rintro e w2 ⟨rfl, hb'⟩; obtain ⟨hc', hfz'⟩ := bcell hb'; have hz' := size_big hb' hz))
    refine bodyPost_ret (v := .agg #[.bool false, .string (natS n), .int .i64 x]) (by simp [results, Tryd.results18, go_sem, hc, hz, hc', hz']) rfl ⟨rfl, ?_⟩
    repeat (refine Below.setCell ?_ (by simp) _)
    exact (box2 hb).trans (hb'.mono (by omega))
end Go.Proofs.YtjkonfopajihdaaDoor
set_option linter.unusedSimpArgs false
set_option linter.unusedVariables false
namespace Go.Proofs.YtjkonfopajihdaaDoor
open Go Go.RowKit Nt

set_option maxRecDepth 100000 in
theorem rMay3_zero (w : World) : Calls Tryd.prog 14 #[.agg #[.bool false, .string ⟨#[]⟩, .int .i64 0]] w fun e w' => e = .returned (.bool true) ∧ Below w.heap.size w w' := by
  go_enter Tryd.func14, Tryd.ntmps14
  go_wp2
  go_ret
  exact ⟨rfl, (Below.refl _ _).alloc (Nat.le_refl _) _⟩
theorem nat_first {n : Nat} (hf : fits n) (h : 0 < (natS n).size) : (natS n)[0].toNat ≠ 0 := ((may_natS n).2 hf).2 h
set_option maxRecDepth 100000 in
theorem rMay3_num (g : Bool) (n : Nat) (x : Int) (w : World) (hf : fits n) (ho : n % 2 = 1) (h1 : -1048576 ≤ x) (h2 : x ≤ 1048576) :
    Calls Tryd.prog 14 #[.agg #[.bool g, .string (natS n), .int .i64 x]] w fun e w' => e = .returned (.bool true) ∧ Below w.heap.size w w' := by
  have hE := natS_full (odd_ne ho)
  have hE2 := natS_full2 (odd_ne ho)
  have hsz := natS_size n
  have hL : nd 256 n ≤ 16384 := hf
  have hp := odd_size ho
  have hl : ((natS n)[nd 256 n - 1]'(by omega)).toNat % 2 = 1 := by
    have := last_odd n hp
    simp only [natS_size] at this
    rw [this, ho]
  have hl2 : (((natS n)[nd 256 n - 1]'(by omega)).toNat : Int) % 2 = 1 := by omega
  have hf0 := nat_first hf hp
  have hf1 : ¬ (((natS n)[0]'hp).toNat : Int) = 0 := by omega
  have hf2 : ((((natS n)[0]'hp).toNat : Int) != 0) = true := by rw [bne_iff_ne]; omega
  have HO := Lib.hid ho
  clear ho
  go_enter Tryd.func14, Tryd.ntmps14
  go_wp2
  go_ret
  exact ⟨rfl, (Below.refl _ _).alloc (Nat.le_refl _) _⟩
set_option maxRecDepth 100000 in
theorem rSign3_zero (w : World) : Calls Tryd.prog 21 #[.agg #[.bool false, .string ⟨#[]⟩, .int .i64 0]] w fun e w' => e = .returned (.int .i64 0) ∧ Below w.heap.size w w' := by
  go_enter Tryd.func21, Tryd.ntmps21
  go_wp2
  go_ret
  exact ⟨rfl, (Below.refl _ _).alloc (Nat.le_refl _) _⟩
set_option maxRecDepth 100000 in
theorem rSign3_num (g : Bool) (n : Nat) (x : Int) (w : World) (ho : n ≠ 0) :
    Calls Tryd.prog 21 #[.agg #[.bool g, .string (natS n), .int .i64 x]] w fun e w' => e = .returned (.int .i64 (sgnI g)) ∧ Below w.heap.size w w' := by
  have hE := natS_full ho
  have hE2 := natS_full2 ho
  have HO := Lib.hid ho
  clear ho
  cases g
  all_goals
    go_enter Tryd.func21, Tryd.ntmps21
    go_wp2
    go_ret
  · exact ⟨by rw [sgn_f]; rfl, (Below.refl _ _).alloc (Nat.le_refl _) _⟩
  · exact ⟨by rw [sgn_t]; rfl, (Below.refl _ _).alloc (Nat.le_refl _) _⟩
set_option maxRecDepth 100000 in
theorem rNeg3_zero (w : World) : Calls Tryd.prog 22 #[.agg #[.bool false, .string ⟨#[]⟩, .int .i64 0]] w fun e w' => e = .returned (.agg #[.bool false, .string ⟨#[]⟩, .int .i64 0]) ∧ Below w.heap.size w w' := by
  go_enter Tryd.func22, Tryd.ntmps22
  go_wp2
  refine bodyPost_ret (v := .agg #[.bool false, .string ⟨#[]⟩, .int .i64 0]) (by simp [results, Tryd.results22, go_sem]) rfl ⟨rfl, ?_⟩
  repeat (refine Below.setCell ?_ (by simp) _)
  exact ((Below.refl _ _).alloc (Nat.le_refl _) _).alloc (by simp) _
set_option maxRecDepth 100000 in
theorem rNeg3_num (g : Bool) (n : Nat) (x : Int) (w : World) (ho : n ≠ 0) :
    Calls Tryd.prog 22 #[.agg #[.bool g, .string (natS n), .int .i64 x]] w fun e w' => e = .returned (.agg #[.bool (!g), .string (natS n), .int .i64 x]) ∧ Below w.heap.size w w' := by
  have hE := natS_full ho
  have hE2 := natS_full2 ho
  have HO := Lib.hid ho
  clear ho
  go_enter Tryd.func22, Tryd.ntmps22
  go_wp2
  refine bodyPost_ret (v := .agg #[.bool (!g), .string (natS n), .int .i64 x]) (by simp [results, Tryd.results22, go_sem]) rfl ⟨rfl, ?_⟩
  repeat (refine Below.setCell ?_ (by simp) _)
  exact ((Below.refl _ _).alloc (Nat.le_refl _) _).alloc (by simp) _
set_option maxRecDepth 100000 in
theorem rMay3_bad (g : Bool) (s : ByteArray) (x : Int) (w : World) (hs : s.size ≤ 9223372036854775807) (h : ¬ DOk g s x) :
    Calls Tryd.prog 14 #[.agg #[.bool g, .string s, .int .i64 x]] w fun e w' => e = .returned (.bool false) ∧ Below w.heap.size w w' := by
  rcases dbad h with ⟨rfl, hz⟩ | ⟨hp, hz⟩
  · clear h hs
    have hz2 : g = true ∨ (g = false ∧ (x == 0) = false ∧ ¬ x = 0) := by
      rcases hz with rfl | hz
      · exact Or.inl rfl
      · cases g
        · exact Or.inr ⟨rfl, by simpa using hz, hz⟩
        · exact Or.inl rfl
    clear hz
    rcases hz2 with rfl | ⟨rfl, hx, hx2⟩
    all_goals
      go_enter Tryd.func14, Tryd.ntmps14
      go_wp2
      go_ret
      exact ⟨rfl, (Below.refl _ _).alloc (Nat.le_refl _) _⟩
  · have hE := dFull hp
    have hE2 := dFull2 hp
    clear h
    by_cases hbig : 16384 < s.size
    · have hb' : ¬ (s.size : Int) ≤ 16384 := by omega
      clear hz
      go_enter Tryd.func14, Tryd.ntmps14
      go_wp2
      go_ret
      exact ⟨rfl, (Below.refl _ _).alloc (Nat.le_refl _) _⟩
    · have hb' : (s.size : Int) ≤ 16384 := by omega
      have hb'' : s.size ≤ 16384 := by omega
      by_cases h0 : (s[0]'hp).toNat = 0
      · have h0' : (((s[0]'hp).toNat : Int) != 0) = false := by rw [h0]; rfl
        have H0 := Lib.hid h0
        clear hz h0 hbig
        go_enter Tryd.func14, Tryd.ntmps14
        go_wp2
        go_ret
        exact ⟨rfl, (Below.refl _ _).alloc (Nat.le_refl _) _⟩
      · have h0' : (((s[0]'hp).toNat : Int) != 0) = true := by rw [bne_iff_ne]; omega
        have hm : May s := ⟨hb'', fun _ => h0⟩
        rcases hz with hz | ⟨hz, hm' | ⟨_, hx⟩⟩
        · have hl2 : ((s[s.size - 1]'(by omega)).toNat : Int) % 2 = 0 := by omega
          have H0 := Lib.hid h0
          clear hm h0 hz
          go_enter Tryd.func14, Tryd.ntmps14
          go_wp2
          go_ret
          exact ⟨rfl, (Below.refl _ _).alloc (Nat.le_refl _) _⟩
        · exact absurd hm hm'
        · have hl2 : ((s[s.size - 1]'(by omega)).toNat : Int) % 2 = 1 := by omega
          have H0 := Lib.hid h0
          clear hm h0 hz
          rcases hx with hx | hx
          · have hx' : ¬ -1048576 ≤ x := by omega
            go_enter Tryd.func14, Tryd.ntmps14
            go_wp2
            go_ret
            exact ⟨rfl, (Below.refl _ _).alloc (Nat.le_refl _) _⟩
          · have hx' : ¬ x ≤ 1048576 := by omega
            have hx'' : -1048576 ≤ x := by omega
            go_enter Tryd.func14, Tryd.ntmps14
            go_wp2
            go_ret
            exact ⟨congrArg (fun b => Ending.returned (.bool b)) (decide_eq_false (by omega)), (Below.refl _ _).alloc (Nat.le_refl _) _⟩
end Go.Proofs.YtjkonfopajihdaaDoor
set_option linter.unusedSimpArgs false
set_option linter.unusedVariables false
namespace Go.Proofs.YtjkonfopajihdaaDoor
open Go Go.RowKit Nt

theorem dlget3 (b n L i : Nat) (h : i < (dl b n L).length) : (dl b n L)[i] = dgt b n i := by
  have := dl_get? b n L i (by rw [dl_length] at h; exact h)
  rw [List.getElem?_eq_getElem h] at this
  exact Option.some.inj this
/-- A row of digits that the call made. -/
def BigPost (l : List Nat) (w : World) (e : Ending) (w' : World) : Prop := ∃ v, e = .returned v ∧ Own w' w.heap.size 3 .i64 v l ∧ Below w.heap.size w w'
set_option maxRecDepth 100000 in
set_option maxHeartbeats 1000000 in
theorem rOf3_c (n : Nat) (w : World) (hn : nd 256 n ≤ 1000000000) :
    Calls Tryd.prog 61 #[.string (natS n)] w (BigPost (dl 256 n (nd 256 n)) w) := by
  obtain ⟨i0, hi0, hz0, hj1, hj2⟩ := info_parts (P := Tryd.prog) (e := 3) (z := .int .i64 0) (size := 1) (bytes := 8) (by kernel_rfl)
  have hsz := natS_size n
  obtain ⟨N, hN⟩ : ∃ N, N = nd 256 n := ⟨_, rfl⟩
  have hg := fun k (h : k < (natS n).size) => natS_get n k h
  rw [← hN] at hsz hn hg ⊢
  have HG := Lib.hid hg
  have HN := Lib.hid hN
  clear hN hg
  go_enter Tryd.func61, Tryd.ntmps61
  go_wp2
  go_loopw [3, 4] (fun v i wr => ∃ (k : Nat) (z : Int), k ≤ N ∧ i = .int .i64 z ∧ Hid (z = (N : Int) - 1 - (k : Int)) ∧ Hid (Own wr w.heap.size 3 .i64 v (dl 256 n k)) ∧ Below w.heap.size w wr) (fun _ i _ => (intOf i + 1).toNat)
  case atStart => exact ⟨0, _, Nat.zero_le _, rfl, Lib.hid (by first | rfl | omega | go_num), Lib.hid (Own.nil _ _ _ _), Below.refl _ _⟩
  case round =>
    obtain ⟨k, z, hk, rfl, hz, hown, hb⟩ := hrel
    by_cases h0 : k = N
    · subst h0
      obtain rfl : z = -1 := by have := hz.out; omega
      go_wp2
      go_ret
      exact ⟨_, rfl, hown.out, hb⟩
    · obtain ⟨m, hm⟩ : ∃ m, N = k + 1 + m := ⟨N - k - 1, by omega⟩
      obtain rfl : z = (m : Int) := by have := hz.out; omega
      have hms : m < (natS n).size := by omega
      have e := HG.out m hms
      rw [show N - 1 - m = k by omega] at e
      have hlt := (natS n)[m].toNat_lt
      have hw : wrap64 ((m : Int) - 1) = (m : Int) - 1 := IntWalk.wrap64_in _ (by omega)
      have hlen : Hid ((dl 256 n k).length + 1 ≤ 17592186044416) := Lib.hid (by rw [dl_length]; omega)
      have hm0 : (0 : Int) ≤ (m : Int) := by omega
      have HM := Lib.hid hm
      have HE := Lib.hid e
      have hwc : wrap64 (((natS n)[m].toNat : Nat) : Int) = (((natS n)[m].toNat : Nat) : Int) := IntWalk.wrap64_in _ (by omega)
      clear e hm h0
      go_wp2_with (at_builtin; go_loud (refine wpList_app1 wr rfl (.tmp 12) (.tmp 17) _ rfl w.heap.size 3 3 i0 .i64 8 Tryd.underlying78 hi0 hz0 hj1 hj2 (by omega) _ (dl 256 n k) (natS n)[m].toNat rfl rfl hown.out hlen.out hb.size ?_); intro v5 w5 hown5 hb5 hfr5 hnw5)
      rw [HE.out, ← dl_succ] at hown5
      have HO5 := Lib.hid hown5
      clear hown5 hfr5 hnw5
      go_roundw
      case rel => exact ⟨k + 1, _, by have := HM.out; omega, rfl, Lib.hid (by have := HM.out; omega), HO5, hb.trans hb5⟩
      case measure => simp [intOf]; try omega
set_option maxRecDepth 100000 in
theorem rBits3_c (n B : Nat) (A : Option Addr) (c : Nat) (w : World) (hn : nd 256 n ≤ 1000000000) (h : Own w B 3 .i64 (.slice A (nd 256 n) c) (dl 256 n (nd 256 n))) :
    Calls Tryd.prog 60 #[.slice A (nd 256 n) c] w fun e w' => e = .returned (.int .i64 (nd 2 n : Nat)) ∧ w = w' := by
  by_cases h0 : n = 0
  · have HZ := Lib.hid (show nd 2 n = 0 by rw [h0, nd_zero])
    have e : nd 256 n = 0 := by rw [h0, nd_zero]
    rw [e] at h ⊢
    clear h h0 hn e
    go_enter Tryd.func60, Tryd.ntmps60
    go_wp2
    go_ret
    exact ⟨by rw [HZ.out]; rfl, rfl⟩
  · have hb8 := (bits_le n (nd 256 n)).2 (Nat.le_refl _)
    have ht := nd_top (b := 2) (c := 256) (e := 8) (by omega) (by omega) (by rfl) n h0
    obtain ⟨L, hL⟩ : ∃ L, nd 256 n = L + 1 := ⟨nd 256 n - 1, by
      rcases Nat.eq_zero_or_pos (nd 256 n) with h | h
      · exact absurd ((nd_eq_zero (by omega)).1 h) h0
      · omega⟩
    rw [hL, Nat.add_sub_cancel] at ht
    rw [hL] at h hn hb8 ⊢
    obtain ⟨g, cap, e, _, hg, hc, hf⟩ := h.cell (j := L) (by rw [dl_length]; omega)
    injection e with e1 e2 e3
    subst e1
    rw [dlget3] at hc
    have hlt := dgt_lt (b := 256) (by omega) n L
    generalize dgt 256 n L = d at *
    have HT := Lib.hid ht
    have HB := Lib.hid hb8
    clear h e2 e3 hf ht hb8 hL h0
    go_enter Tryd.func60, Tryd.ntmps60
    go_wp2
    go_loop [3, 4] (fun a b => ∃ x y : Nat, a = .int .i64 x ∧ b = .int .i64 y ∧ x ≤ 9000000000 ∧ y < 256 ∧ Hid (x + nd 2 y = nd 2 n)) (fun _ b => (intOf b).toNat)
    case atStart => exact ⟨8 * L, d, by go_num, rfl, by omega, hlt, Lib.hid (by rw [HT.out])⟩
    case round =>
      obtain ⟨x, y, rfl, rfl, hx, hy, hxy⟩ := hrel
      by_cases hy0 : y = 0
      · subst hy0
        have HZ := Lib.hid (show x = nd 2 n by have := hxy.out; rw [nd_zero] at this; exact this)
        go_wp2
        go_ret
        exact ⟨by rw [← HZ.out]; rfl, rfl⟩
      · have HS := Lib.hid (nd_step (b := 2) (by omega) hy0)
        have hy1 : (0 : Int) < (y : Int) := by omega
        have hxm : Hid (x + 1 ≤ 9000000000) := Lib.hid (by have h1 := hxy.out; have h2 := HS.out; have h3 := HB.out; omega)
        go_wp2
        go_round
        case rel => exact ⟨x + 1, y / 2, by go_num, by go_num, hxm.out, by omega, Lib.hid (by have h1 := hxy.out; have h2 := HS.out; omega)⟩
        case measure => simp [intOf]; omega
set_option maxRecDepth 100000 in
theorem rTop3_zero (w : World) : Calls Tryd.prog 20 #[.agg #[.bool false, .string ⟨#[]⟩, .int .i64 0]] w fun e w' => e = .returned (.tuple #[.int .i64 0, .bool false]) ∧ Below w.heap.size w w' := by
  go_enter Tryd.func20, Tryd.ntmps20
  go_wp2
  go_ret2
  exact ⟨rfl, (Below.refl _ _).alloc (Nat.le_refl _) _⟩
end Go.Proofs.YtjkonfopajihdaaDoor
set_option linter.unusedSimpArgs false
set_option linter.unusedVariables false
namespace Go.Proofs.YtjkonfopajihdaaDoor
open Go Go.RowKit Nt

theorem boxd {w w1 : World} {b : Obj} (hb : Below ((w.alloc b).drew).heap.size ((w.alloc b).drew) w1) : Below w.heap.size w w1 := (((Below.refl _ _).alloc (Nat.le_refl _) _).drew).trans (hb.mono (show w.heap.size ≤ (w.alloc b).heap.size by simp))
set_option maxRecDepth 100000 in
set_option maxHeartbeats 1000000 in
theorem rTop3_num (g : Bool) (n : Nat) (x : Int) (w : World) (hf : fits n) (ho : n ≠ 0) (h1 : -1048576 ≤ x) (h2 : x ≤ 1048576) :
    Calls Tryd.prog 20 #[.agg #[.bool g, .string (natS n), .int .i64 x]] w fun e w' => e = .returned (.tuple #[.int .i64 ((nd 2 n : Nat) - 1 + x), .bool true]) ∧ Below w.heap.size w w' := by
  have hE := natS_full ho
  have hE2 := natS_full2 ho
  have hb2 := bits_131072' hf
  have hL : nd 256 n ≤ 1000000000 := by unfold fits at hf; omega
  have HO := Lib.hid ho
  have hw1 : IntKind.i64.wrap ((nd 2 n : Int) - 1) = (nd 2 n : Int) - 1 := IntWalk.i64_in _ (by omega)
  have hw2 : IntKind.i64.wrap ((nd 2 n : Int) - 1 + x) = (nd 2 n : Int) - 1 + x := IntWalk.i64_in _ (by omega)
  have hw3 : wrap64 ((nd 2 n : Int) - 1) = (nd 2 n : Int) - 1 := IntWalk.wrap64_in _ (by omega)
  have hw4 : wrap64 ((nd 2 n : Int) - 1 + x) = (nd 2 n : Int) - 1 + x := IntWalk.wrap64_in _ (by omega)
  clear ho
  go_enter Tryd.func20, Tryd.ntmps20
  go_upto_region 3 with fail
  go_region_with (first
    | (go_at_call 61; refine (rOf3_c n _ hL).mono ?_; rintro e w1 ⟨v, rfl, hown, hb⟩; obtain ⟨hc, hfz⟩ := bcell hb; obtain ⟨A, c, rfl, hcl⟩ := hown.len; rw [dl_length] at hown ⊢)
    | (go_at_call 60; refine (rBits3_c n _ _ _ _ hL hown).mono ?_; rintro e w2 ⟨rfl, rfl⟩))
  all_goals
    go_wp2
    go_ret2
    first
      | exact ⟨rfl, boxd hb⟩
      | exact ⟨rfl, (boxd hb).drew⟩
      | exact ⟨rfl, box_below hb⟩
      | exact ⟨rfl, (box_below hb).drew⟩
end Go.Proofs.YtjkonfopajihdaaDoor
set_option linter.unusedSimpArgs false
set_option linter.unusedVariables false
namespace Go.Proofs.YtjkonfopajihdaaDoor
open Go Go.RowKit Nt

theorem Own.take {w : World} {B : Nat} {T : TypeId} {k : IntKind} {A : Option Addr} {L c : Nat} {l : List Nat} (h : Own w B T k (.slice A L c) l) {m : Nat} (hm : m ≤ l.length) : Own w B T k (.slice A m c) (l.take m) := by
  have hl : (l.take m).length = m := by rw [List.length_take]; omega
  unfold Own
  rw [hl]
  refine ⟨by simp; omega, ?_⟩
  rcases h.2 with ⟨e, h0⟩ | ⟨g, cap, cur, e, hB, hh, hn, hmx, hs, ht⟩
  · injection e with e1 e2 e3
    refine Or.inl ⟨?_, by omega⟩
    rw [e1, e3, show m = 0 by omega]
  · injection e with e1 e2 e3
    refine Or.inr ⟨g, cap, cur, by rw [e1, e3], hB, hh, by omega, hmx, hs, ?_⟩
    rw [Nat.mul_one] at ht ⊢
    rw [List.map_take, ← ht, List.take_take, Nat.min_eq_left hm]
theorem dl_take (b n : Nat) {L m : Nat} (h : m ≤ L) : (dl b n L).take m = dl b n m := by
  apply List.ext_getElem
  · rw [List.length_take, dl_length, dl_length]; omega
  · intro i h1 h2
    rw [List.getElem_take, dlget3, dlget3]
/-- Without the noughts at the end. -/
theorem Own.cut {w : World} {B : Nat} {T : TypeId} {k : IntKind} {A : Option Addr} {L c n : Nat} (h : Own w B T k (.slice A L c) (dl 256 n L)) (hn : nd 256 n ≤ L) : Own w B T k (.slice A (nd 256 n) c) (dl 256 n (nd 256 n)) := by
  have := h.take (m := nd 256 n) (by rw [dl_length]; exact hn)
  rwa [dl_take 256 n hn] at this
set_option maxRecDepth 100000 in
set_option maxHeartbeats 400000 in
theorem rCut3_c (n L B : Nat) (A : Option Addr) (c : Nat) (w : World) (hn : nd 256 n ≤ L) (hL : L ≤ 1000000000) (h : Own w B 3 .i64 (.slice A L c) (dl 256 n L)) :
    Calls Tryd.prog 113 #[.slice A L c] w fun e w' => e = .returned (.slice A (nd 256 n) c) ∧ w = w' := by
  rcases h.form with ⟨e, h0⟩ | ⟨g, cap, cs, e, _, hg, hblk, hcap, hcm, hcell⟩
  · injection e with e1 e2 e3
    have hz : nd 256 n = 0 := by omega
    subst e1 e2 e3
    rw [hz]
    clear h h0 hn
    go_enter Tryd.func113, Tryd.ntmps113
    go_wp2
    go_loop [3] (fun i => i = .int .i64 0) (fun i => (intOf i).toNat)
    case atStart => rfl
    case round =>
      obtain rfl := hrel
      go_wp2
      go_ret
      exact ⟨rfl, rfl⟩
  · injection e with e1 e2 e3
    subst e1 e3
    rw [dl_length] at hcap
    have hc : Hid (∀ j, j < L → w.cell? ⟨g, j, none⟩ = some (.int .i64 (dgt 256 n j : Nat))) := Lib.hid fun j hj => by
      rw [hblk.cell, hcell j (by rw [dl_length]; exact hj), dlget3]
    clear h hcell hblk e2
    go_enter Tryd.func113, Tryd.ntmps113
    go_wp2
    go_loop [3] (fun i => ∃ k : Nat, i = .int .i64 k ∧ nd 256 n ≤ k ∧ k ≤ L) (fun i => (intOf i).toNat)
    case atStart => exact ⟨L, rfl, hn, Nat.le_refl _⟩
    case round =>
      obtain ⟨k, rfl, hk, hkL⟩ := hrel
      by_cases hk0 : k = 0
      · subst hk0
        have hz : nd 256 n = 0 := by omega
        have HZ := Lib.hid hz
        clear hk hz
        go_wp2
        go_ret
        exact ⟨by rw [HZ.out]; try rfl, rfl⟩
      · obtain ⟨m, rfl⟩ : ∃ m, k = m + 1 := ⟨k - 1, by omega⟩
        have hcm' := hc.out m (by omega)
        by_cases hd : dgt 256 n m = 0
        · rw [hd] at hcm'
          have hk2 : Hid (nd 256 n ≤ m) := Lib.hid (by
            rcases Nat.lt_or_ge m (nd 256 n) with c | c
            · have e : nd 256 n = m + 1 := by omega
              have := dgt_top (b := 256) (n := n) (by omega) (fun c => by rw [c, nd_zero] at e; omega)
              rw [e, Nat.add_sub_cancel] at this
              exact absurd hd this
            · exact c)
          clear hk hd
          go_wp2
          go_round
          case rel => exact ⟨m, by go_num, hk2.out, by omega⟩
          case measure => simp [intOf]; try omega
        · have hd1 : ((dgt 256 n m : Nat) : Int) ≠ 0 := by omega
          have hd2 : (((dgt 256 n m : Nat) : Int) == 0) = false := by rw [beq_eq_false_iff_ne]; exact hd1
          have HE := Lib.hid (show nd 256 n = m + 1 by
            rcases Nat.lt_or_ge m (nd 256 n) with c | c
            · omega
            · exact absurd (dgt_big (b := 256) (by omega) c) hd)
          generalize dgt 256 n m = d at *
          clear hk
          go_wp2
          go_ret
          exact ⟨by rw [HE.out]; try rfl, rfl⟩
set_option maxRecDepth 100000 in
theorem rAt3_c (n L i B : Nat) (A : Option Addr) (c : Nat) (w : World) (hL : nd 256 n ≤ L) (hL2 : L ≤ 4000000000) (hi : i ≤ 4000000000) (h : Own w B 3 .i64 (.slice A L c) (dl 256 n L)) :
    Calls Tryd.prog 125 #[.slice A L c, .int .i64 (i : Nat)] w fun e w' => e = .returned (.int .i64 (dgt 256 n i : Nat)) ∧ w = w' := by
  by_cases hlt : i < L
  · obtain ⟨g, cap, e, _, hg, hc, hf⟩ := h.cell (j := i) (by rw [dl_length]; exact hlt)
    injection e with e1 e2 e3
    subst e1
    rw [dlget3] at hc
    generalize dgt 256 n i = d at *
    clear h e2 e3 hf
    go_enter Tryd.func125, Tryd.ntmps125
    go_wp2
    go_ret
    exact ⟨rfl, rfl⟩
  · rw [dgt_big (b := 256) (by omega) (show nd 256 n ≤ i by omega)]
    clear h hL
    go_enter Tryd.func125, Tryd.ntmps125
    go_wp2
    go_ret
    exact ⟨rfl, rfl⟩
end Go.Proofs.YtjkonfopajihdaaDoor
set_option linter.unusedSimpArgs false
set_option linter.unusedVariables false
namespace Go.Proofs.YtjkonfopajihdaaDoor
open Go Go.RowKit Nt

theorem and_one_i64 (q : Nat) (hq : q < 256) : bits BinOp.and IntKind.i64 (q : Int) 1 = ((q % 2 : Nat) : Int) := by
  have h1 : (BitVec.ofInt 64 (q : Int)).toNat = q := by
    rw [BitVec.ofInt_natCast, BitVec.toNat_ofNat]; exact Nat.mod_eq_of_lt (by omega)
  have h2 : (BitVec.ofInt 64 (1 : Int)).toNat = 1 := by decide
  show IntKind.i64.wrap ((BitVec.ofInt 64 (q : Int) &&& BitVec.ofInt 64 (1 : Int)).toNat : Int) = _
  rw [BitVec.toNat_and, h1, h2, Nat.and_one_is_mod]
  exact IntWalk.i64_in _ (by omega)
set_option maxRecDepth 100000 in
set_option maxHeartbeats 400000 in
theorem rLow3_c (n l L B : Nat) (A : Option Addr) (c : Nat) (w : World) (h0 : n ≠ 0) (hl : IsLow n l) (hn : nd 256 n ≤ L) (hL : L ≤ 1000000000) (h : Own w B 3 .i64 (.slice A L c) (dl 256 n L)) :
    Calls Tryd.prog 103 #[.slice A L c] w fun e w' => e = .returned (.int .i64 (l : Nat)) ∧ w = w' := by
  have hlt := low_lt h0 hl
  have hb8 := (bits_le n (nd 256 n)).2 (Nat.le_refl _)
  obtain ⟨g, cap, e, _, hg, hx1, hx2⟩ := h.cell (j := 0) (by rw [dl_length]; omega)
  clear hx1 hx2
  injection e with e1 e2 e3
  subst e1
  have hc : Hid (∀ j, j < L → w.cell? ⟨g, j, none⟩ = some (.int .i64 (dgt 256 n j : Nat))) := Lib.hid fun j hj => by
    obtain ⟨g', cap', e', _, _, hc', _⟩ := h.cell (j := j) (by rw [dl_length]; exact hj)
    injection e' with e1' e2' e3'
    injection e1' with e1'
    injection e1' with e1'
    subst e1'
    rw [hc', dlget3]
  have HL := Lib.hid (hl.2 h0)
  have HB : l < 8 * L := by omega
  clear h e2 e3 hl hlt hb8 hn h0
  go_enter Tryd.func103, Tryd.ntmps103
  go_wp2
  go_loop [3] (fun i => ∃ k : Nat, k ≤ l ∧ i = .int .i64 k) (fun i => l - (intOf i).toNat)
  case atStart => exact ⟨0, Nat.zero_le _, rfl⟩
  case round =>
    obtain ⟨k, hk, rfl⟩ := hrel
    have hbb := byte_bit n (k / 8) (k % 8) (by omega)
    rw [show 8 * (k / 8) + k % 8 = k by omega] at hbb
    have hqL : k / 8 < L := by omega
    have hcq := hc.out (k / 8) hqL
    have hd8 := dgt_lt (b := 256) (by omega) n (k / 8)
    generalize dgt 256 n (k / 8) = d at *
    obtain ⟨v, hv⟩ : ∃ v, v = d / 2 ^ (k % 8) := ⟨_, rfl⟩
    have hv2 : v < 256 := by rw [hv]; exact Nat.lt_of_le_of_lt (Nat.div_le_self _ _) hd8
    have hvI : (d : Int) / 2 ^ (k % 8) = (v : Int) := by rw [hv, int_pow2, Int.natCast_ediv]
    have hand := and_one_i64 v hv2
    rw [hv, hbb] at hand
    rw [← hv] at hand
    obtain ⟨q, hq1⟩ : ∃ q, k / 8 = q := ⟨_, rfl⟩
    obtain ⟨r, hr1⟩ : ∃ r, k % 8 = r := ⟨_, rfl⟩
    rw [hq1] at hqL hcq
    rw [hr1] at hvI
    have hqI : (k : Int) / 8 = (q : Int) := by omega
    have hrI : (k : Int) % 8 = (r : Int) := by omega
    have hr8 : r < 8 := by omega
    clear hv hbb hq1 hr1
    by_cases hkl : k < l
    · rw [HL.out.2 k hkl] at hand
      have hz : bits BinOp.and IntKind.i64 (v : Int) 1 = 0 := hand
      clear hand
      go_wp2
      go_round
      case rel => exact ⟨k + 1, by omega, by go_num⟩
      case measure => simp [intOf]; try omega
    · obtain rfl : k = l := by omega
      rw [HL.out.1] at hand
      have hz : bits BinOp.and IntKind.i64 (v : Int) 1 = 1 := hand
      clear hand
      go_wp2
      go_ret
      exact ⟨rfl, rfl⟩
end Go.Proofs.YtjkonfopajihdaaDoor
set_option linter.unusedSimpArgs false
set_option linter.unusedVariables false
namespace Go.Proofs.YtjkonfopajihdaaDoor
open Go Go.RowKit Nt

def lowN (n : Nat) : Nat := if h : n = 0 ∨ n % 2 = 1 then 0 else lowN (n / 2) + 1
termination_by n
decreasing_by omega
theorem lowN_odd {n : Nat} (h : n % 2 = 1) : lowN n = 0 := by unfold lowN; rw [dif_pos (Or.inr h)]
theorem lowN_zero : lowN 0 = 0 := by unfold lowN; rw [dif_pos (Or.inl rfl)]
theorem lowN_even {n : Nat} (h0 : n ≠ 0) (h : n % 2 = 0) : lowN n = lowN (n / 2) + 1 := by
  have e : ¬ (n = 0 ∨ n % 2 = 1) := fun c => by rcases c with c | c; exact h0 c; omega
  rw [lowN.eq_1 n, dif_neg e]
theorem lowN_ex (n : Nat) (h0 : n ≠ 0) : ∃ o, o % 2 = 1 ∧ n = o * 2 ^ lowN n := by
  induction n using Nat.strongRecOn with
  | ind n ih =>
    by_cases h : n % 2 = 1
    · exact ⟨n, h, by rw [lowN_odd h, Nat.pow_zero, Nat.mul_one]⟩
    · obtain ⟨o, ho, e⟩ := ih (n / 2) (by omega) (by omega)
      refine ⟨o, ho, ?_⟩
      rw [lowN_even h0 (by omega), Nat.pow_succ, ← Nat.mul_assoc, ← e]; omega
def odN (n : Nat) : Nat := n / 2 ^ lowN n
theorem odN_spec {n : Nat} (h0 : n ≠ 0) : odN n % 2 = 1 ∧ n = odN n * 2 ^ lowN n := by
  obtain ⟨o, ho, e⟩ := lowN_ex n h0
  have e2 : odN n = o := by
    unfold odN
    generalize lowN n = k at *
    rw [e, Nat.mul_div_cancel _ (Nat.two_pow_pos _)]
  rw [e2]; exact ⟨ho, e⟩
theorem odN_pos {n : Nat} (h0 : n ≠ 0) : odN n ≠ 0 := odd_ne (odN_spec h0).1
theorem odd_pow {o l m k : Nat} (ho : o % 2 = 1) (hm : m % 2 = 1) (h : o * 2 ^ l = m * 2 ^ k) : l = k ∧ o = m := by
  induction l generalizing k with
  | zero =>
    cases k with
    | zero => exact ⟨rfl, by simpa using h⟩
    | succ k => rw [Nat.pow_zero, Nat.mul_one, Nat.pow_succ, ← Nat.mul_assoc] at h; omega
  | succ l ih =>
    cases k with
    | zero => rw [Nat.pow_zero, Nat.mul_one, Nat.pow_succ, ← Nat.mul_assoc] at h; omega
    | succ k =>
      rw [Nat.pow_succ, Nat.pow_succ, ← Nat.mul_assoc, ← Nat.mul_assoc] at h
      obtain ⟨e1, e2⟩ := ih (k := k) (by omega)
      exact ⟨by rw [e1], e2⟩
theorem od_unique {n o l : Nat} (ho : o % 2 = 1) (h : n = o * 2 ^ l) : lowN n = l ∧ odN n = o := by
  have h0 : n ≠ 0 := fun c => by
    rw [c] at h
    rcases Nat.mul_eq_zero.1 h.symm with c | c
    · exact odd_ne ho c
    · exact absurd c (Nat.pos_iff_ne_zero.1 (Nat.two_pow_pos l))
  obtain ⟨h1, h2⟩ := odN_spec h0
  exact odd_pow h1 ho (h2.symm.trans h)
theorem od_mul {n : Nat} (h0 : n ≠ 0) (k : Nat) : lowN (n * 2 ^ k) = lowN n + k ∧ odN (n * 2 ^ k) = odN n := by
  obtain ⟨h1, h2⟩ := odN_spec h0
  refine od_unique h1 ?_
  rw [Nat.pow_add, ← Nat.mul_assoc, ← h2]
theorem odN_odd {n : Nat} (h : n % 2 = 1) : odN n = n := (od_unique (l := 0) h (by rw [Nat.pow_zero, Nat.mul_one])).2
theorem odN_zero : odN 0 = 0 := by unfold odN; rw [Nat.zero_div]
theorem lowN_is (n : Nat) : IsLow n (lowN n) := by
  refine ⟨fun c => by rw [c, lowN_zero], fun h0 => ?_⟩
  obtain ⟨h1, h2⟩ := odN_spec h0
  refine ⟨?_, fun j hj => ?_⟩
  · rw [dgt_def]; exact h1
  · rw [dgt_def, h2, show lowN n = j + (lowN n - j) by omega, Nat.pow_add, Nat.mul_left_comm, Nat.mul_div_cancel_left _ (Nat.two_pow_pos j), show lowN n - j = (lowN n - j - 1) + 1 by omega, Nat.pow_succ, ← Nat.mul_assoc]
    omega
theorem odN_le (n : Nat) : odN n ≤ n := Nat.div_le_self _ _
theorem nd_odN {n : Nat} (h0 : n ≠ 0) : nd 2 n = nd 2 (odN n) + lowN n := by
  have h := nd_mul_pow (j := lowN n) (odN_pos h0)
  rwa [← (odN_spec h0).2] at h
/-- A Dyad. -/
structure Dy where
  g : Bool
  n : Nat
  x : Int
def Dy.v (d : Dy) : Value := .agg #[.bool d.g, .string (natS d.n), .int .i64 d.x]
def Dy.zero : Dy := ⟨false, 0, 0⟩
def Dy.Num (d : Dy) : Prop := fits d.n ∧ d.n % 2 = 1 ∧ -1048576 ≤ d.x ∧ d.x ≤ 1048576
def Dy.Ok (d : Dy) : Prop := d = Dy.zero ∨ d.Num
theorem Dy.zero_v : Dy.zero.v = .agg #[.bool false, .string ⟨#[]⟩, .int .i64 0] := by unfold Dy.v Dy.zero; rw [natS_zero]
theorem fits_zero : fits 0 := by unfold fits; rw [nd_zero]; omega
theorem DOk_dy {g : Bool} {s : ByteArray} {x : Int} (h : DOk g s x) : ∃ d : Dy, d.Ok ∧ g = d.g ∧ s = natS d.n ∧ x = d.x := by
  rcases h with ⟨rfl, rfl, rfl⟩ | ⟨n, hf, ho, rfl, h1, h2⟩
  · exact ⟨Dy.zero, Or.inl rfl, rfl, natS_zero.symm, rfl⟩
  · exact ⟨⟨g, n, x⟩, Or.inr ⟨hf, ho, h1, h2⟩, rfl, rfl, rfl⟩
/-- Whether a number times a power of two may be a Dyad. -/
def mkOk3 (n : Nat) (x : Int) : Prop := n = 0 ∨ (fits (odN n) ∧ -1048576 ≤ x + lowN n ∧ x + lowN n ≤ 1048576)
instance (n : Nat) (x : Int) : Decidable (mkOk3 n x) := by unfold mkOk3 fits; exact inferInstance
@[irreducible] def mkD (g : Bool) (n : Nat) (x : Int) : Dy := if n ≠ 0 ∧ mkOk3 n x then ⟨g, odN n, x + lowN n⟩ else Dy.zero
@[irreducible] def mkE (n : Nat) (x : Int) : Int := if mkOk3 n x then 0 else 4
theorem mkD_zero (g : Bool) (x : Int) : mkD g 0 x = Dy.zero := by unfold mkD; rw [if_neg (fun c => c.1 rfl)]
theorem mkE_zero (x : Int) : mkE 0 x = 0 := by unfold mkE; exact if_pos (Or.inl rfl)
theorem mkD_ok {g : Bool} {n : Nat} {x : Int} (h0 : n ≠ 0) (h : mkOk3 n x) : mkD g n x = ⟨g, odN n, x + lowN n⟩ := by unfold mkD; rw [if_pos ⟨h0, h⟩]
theorem mkE_ok {n : Nat} {x : Int} (h : mkOk3 n x) : mkE n x = 0 := by unfold mkE; rw [if_pos h]
theorem mkD_no {g : Bool} {n : Nat} {x : Int} (h : ¬ mkOk3 n x) : mkD g n x = Dy.zero := by unfold mkD; rw [if_neg (fun c => h c.2)]
theorem mkE_no {n : Nat} {x : Int} (h : ¬ mkOk3 n x) : mkE n x = 4 := by unfold mkE; rw [if_neg h]
theorem mkD_Ok (g : Bool) (n : Nat) (x : Int) : (mkD g n x).Ok := by
  by_cases h0 : n = 0
  · subst h0; rw [mkD_zero]; exact Or.inl rfl
  · by_cases h : mkOk3 n x
    · rw [mkD_ok h0 h]
      rcases h with h | ⟨h1, h2, h3⟩
      · exact absurd h h0
      · exact Or.inr ⟨h1, (odN_spec h0).1, h2, h3⟩
    · rw [mkD_no h]; exact Or.inl rfl
theorem mkOk3_shift {n : Nat} (k : Nat) {x : Int} : mkOk3 (n * 2 ^ k) (x - k) ↔ mkOk3 n x := by
  by_cases h0 : n = 0
  · subst h0; rw [Nat.zero_mul]; exact ⟨fun _ => Or.inl rfl, fun _ => Or.inl rfl⟩
  · have h1 : n * 2 ^ k ≠ 0 := fun c => by
      rcases Nat.mul_eq_zero.1 c with c | c
      · exact h0 c
      · exact absurd c (Nat.pos_iff_ne_zero.1 (Nat.two_pow_pos k))
    obtain ⟨e1, e2⟩ := od_mul h0 k
    unfold mkOk3
    rw [e1, e2]
    have e : x - (k : Int) + ((lowN n + k : Nat) : Int) = x + lowN n := by omega
    rw [e]
    exact ⟨fun h => h.elim (fun c => absurd c h1) Or.inr, fun h => h.elim (fun c => absurd c h0) Or.inr⟩
theorem mkD_shift (g : Bool) (n k : Nat) (x : Int) : mkD g (n * 2 ^ k) (x - k) = mkD g n x ∧ mkE (n * 2 ^ k) (x - k) = mkE n x := by
  by_cases h0 : n = 0
  · subst h0; rw [Nat.zero_mul, mkD_zero, mkD_zero, mkE_zero, mkE_zero]; exact ⟨rfl, rfl⟩
  · have h1 : n * 2 ^ k ≠ 0 := fun c => by
      rcases Nat.mul_eq_zero.1 c with c | c
      · exact h0 c
      · exact absurd c (Nat.pos_iff_ne_zero.1 (Nat.two_pow_pos k))
    obtain ⟨e1, e2⟩ := od_mul h0 k
    by_cases h : mkOk3 n x
    · rw [mkD_ok h1 ((mkOk3_shift k).2 h), mkD_ok h0 h, mkE_ok ((mkOk3_shift k).2 h), mkE_ok h, e1, e2]
      refine ⟨?_, rfl⟩
      congr 1; omega
    · have h' : ¬ mkOk3 (n * 2 ^ k) (x - k) := fun c => h ((mkOk3_shift k).1 c)
      rw [mkD_no h', mkD_no h, mkE_no h', mkE_no h]; exact ⟨rfl, rfl⟩
/-- A Dyad that may be is made of itself. -/
theorem mkD_self {d : Dy} (h : d.Num) : mkD d.g d.n d.x = d ∧ mkE d.n d.x = 0 := by
  obtain ⟨h1, h2, h3, h4⟩ := h
  have e1 := lowN_odd h2
  have e2 := odN_odd h2
  have hk : mkOk3 d.n d.x := Or.inr ⟨by rw [e2]; exact h1, by rw [e1]; omega, by rw [e1]; omega⟩
  rw [mkD_ok (odd_ne h2) hk, mkE_ok hk, e1, e2]
  refine ⟨?_, rfl⟩
  obtain ⟨g, n, x⟩ := d
  simp
end Go.Proofs.YtjkonfopajihdaaDoor
