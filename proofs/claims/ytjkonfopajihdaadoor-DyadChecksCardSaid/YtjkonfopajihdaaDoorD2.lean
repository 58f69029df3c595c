/- Layer 3 (dyad): Sign, Top, Neg, Abs of the program. -/
import Derived.Test.YtjkonfopajihdaaDoorD1
set_option linter.unusedSimpArgs false
set_option linter.unusedVariables false
namespace Go.Proofs.YtjkonfopajihdaaDoor
open Go Go.RowKit Nt

@[irreducible] def sgnI (g : Bool) : Int := if g then -1 else 1
theorem sgn_t : sgnI true = -1 := by unfold sgnI; rfl
theorem sgn_f : sgnI false = 1 := by unfold sgnI; rfl
theorem size_big {B n : Nat} {w w1 : World} (hb : Below n w w1) (h : B < w.heap.size) : B < w1.heap.size := Nat.lt_of_lt_of_le h hb.size
set_option maxRecDepth 100000 in
theorem DSign_zero (w : World) : Calls Tryd.prog 16 #[.agg #[.bool false, .string ⟨#[]⟩, .int .i64 0]] w fun e w' => e = .returned (.int .i64 0) ∧ Below w.heap.size w w' := by
  go_enter Tryd.func16, Tryd.ntmps16
  go_wp2_with (go_at_call 15; refine (DCheck_zero _).mono ?_; rintro e w1 ⟨rfl, hb⟩; obtain ⟨hc, hfz⟩ := bcell hb)
  go_ret
  exact ⟨rfl, box_below hb⟩
set_option maxRecDepth 100000 in
theorem DSign_bad (g : Bool) (s : ByteArray) (x : Int) (w : World) (hs : s.size ≤ 9223372036854775807) (h : ¬ DOk g s x) : Calls Tryd.prog 16 #[.agg #[.bool g, .string s, .int .i64 x]] w fun e w' => e = .returned (.int .i64 0) ∧ Below w.heap.size w w' := by
  have H := Lib.hid h
  clear h
  go_enter Tryd.func16, Tryd.ntmps16
  go_wp2_with (go_at_call 15; refine (DCheck_bad _ _ _ _ hs H.out).mono ?_; rintro e w1 ⟨rfl, hb⟩; obtain ⟨hc, hfz⟩ := bcell hb)
  go_ret
  exact ⟨rfl, box_below hb⟩
set_option maxRecDepth 100000 in
theorem DSign_num (g : Bool) (n : Nat) (x : Int) (w : World) (hf : fits n) (ho : n % 2 = 1) (h1 : -1048576 ≤ x) (h2 : x ≤ 1048576) :
    Calls Tryd.prog 16 #[.agg #[.bool g, .string (natS n), .int .i64 x]] w fun e w' => e = .returned (.int .i64 (sgnI g)) ∧ Below w.heap.size w w' := by
  have hE := natS_full (odd_ne ho)
  have hE2 := natS_full2 (odd_ne ho)
  have HO := Lib.hid ho
  clear ho
  cases g
  all_goals
    go_enter Tryd.func16, Tryd.ntmps16
    go_wp2_with (go_at_call 15; refine (DCheck_num _ _ _ _ hf HO.out h1 h2).mono ?_; rintro e w1 ⟨rfl, hb⟩; obtain ⟨hc, hfz⟩ := bcell hb)
    go_ret
  · exact ⟨by rw [sgn_f]; rfl, box_below hb⟩
  · exact ⟨by rw [sgn_t]; rfl, box_below hb⟩
set_option maxRecDepth 100000 in
theorem DTop_zero (w : World) : Calls Tryd.prog 13 #[.agg #[.bool false, .string ⟨#[]⟩, .int .i64 0]] w fun e w' => e = .returned (.tuple #[.int .i64 0, .bool false]) ∧ Below w.heap.size w w' := by
  go_enter Tryd.func13, Tryd.ntmps13
  go_wp2_with (go_at_call 16; refine (DSign_zero _).mono ?_; rintro e w1 ⟨rfl, hb⟩; obtain ⟨hc, hfz⟩ := bcell hb)
  go_ret2
  exact ⟨rfl, box_below hb⟩
set_option maxRecDepth 100000 in
theorem DTop_bad (g : Bool) (s : ByteArray) (x : Int) (w : World) (hs : s.size ≤ 9223372036854775807) (h : ¬ DOk g s x) : Calls Tryd.prog 13 #[.agg #[.bool g, .string s, .int .i64 x]] w fun e w' => e = .returned (.tuple #[.int .i64 0, .bool false]) ∧ Below w.heap.size w w' := by
  have H := Lib.hid h
  clear h
  go_enter Tryd.func13, Tryd.ntmps13
  go_wp2_with (go_at_call 16; refine (DSign_bad _ _ _ _ hs H.out).mono ?_; rintro e w1 ⟨rfl, hb⟩; obtain ⟨hc, hfz⟩ := bcell hb)
  go_ret2
  exact ⟨rfl, box_below hb⟩
theorem bits_131072' {n : Nat} (h : fits n) : nd 2 n ≤ 131072 := by
  have := (bits_le n 16384).2 h; omega
theorem sgn_ne (g : Bool) : (sgnI g == 0) = false := by cases g <;> simp [sgn_t, sgn_f]
theorem sgn_ne2 (g : Bool) : ¬ sgnI g = 0 := by cases g <;> simp [sgn_t, sgn_f]
set_option maxRecDepth 100000 in
theorem DTop_num (g : Bool) (n : Nat) (x : Int) (w : World) (hf : fits n) (ho : n % 2 = 1) (h1 : -1048576 ≤ x) (h2 : x ≤ 1048576) :
    Calls Tryd.prog 13 #[.agg #[.bool g, .string (natS n), .int .i64 x]] w fun e w' => e = .returned (.tuple #[.int .i64 ((nd 2 n : Nat) - 1 + x), .bool true]) ∧ Below w.heap.size w w' := by
  have HO := Lib.hid ho
  have hb2 := bits_131072' hf
  have hg := sgn_ne g
  have hg2 := sgn_ne2 g
  clear ho
  go_enter Tryd.func13, Tryd.ntmps13
  go_wp2_with (first
    | (go_at_call 16; refine (DSign_num _ _ _ _ hf HO.out h1 h2).mono ?_; rintro e w1 ⟨rfl, hb⟩; obtain ⟨hc, hfz⟩ := bcell hb; have hz : w.heap.size < w1.heap.size := by have := hb.size; simp at this; omega)
    | (go_at_call 58; refine (NLen_c _ _ hf).mono ?_; rintro e w2 ⟨rfl, hb'⟩; obtain ⟨hc', hfz'⟩ := bcell hb'))
  go_ret2
  exact ⟨rfl, (box_below hb).trans (hb'.mono (by omega))⟩
theorem box2 {w w1 : World} {b c : Obj} (hb : Below ((w.alloc b).alloc c).heap.size ((w.alloc b).alloc c) w1) : Below w.heap.size w w1 := (((Below.refl _ _).alloc (Nat.le_refl _) _).alloc (by simp) _).trans (hb.mono (by simp; omega))
theorem sz2 {w w1 : World} {b c : Obj} (hb : Below ((w.alloc b).alloc c).heap.size ((w.alloc b).alloc c) w1) : w.heap.size + 1 < w1.heap.size := by have := hb.size; simp at this; omega
set_option maxRecDepth 100000 in
theorem DNeg_zero (w : World) : Calls Tryd.prog 17 #[.agg #[.bool false, .string ⟨#[]⟩, .int .i64 0]] w fun e w' => e = .returned (.agg #[.bool false, .string ⟨#[]⟩, .int .i64 0]) ∧ Below w.heap.size w w' := by
  go_enter Tryd.func17, Tryd.ntmps17
  go_wp2_with (go_at_call 16; refine (DSign_zero _).mono ?_; rintro e w1 ⟨rfl, hb⟩; obtain ⟨hc, hfz⟩ := bcell hb; have hz := sz2 hb)
  refine bodyPost_ret (v := .agg #[.bool false, .string ⟨#[]⟩, .int .i64 0]) (by simp [results, Tryd.results17, go_sem, hc, hz]) rfl ⟨rfl, ?_⟩
  repeat (refine Below.setCell ?_ (by simp) _)
  exact box2 hb
set_option maxRecDepth 100000 in
theorem DNeg_bad (g : Bool) (s : ByteArray) (x : Int) (w : World) (hs : s.size ≤ 9223372036854775807) (h : ¬ DOk g s x) : Calls Tryd.prog 17 #[.agg #[.bool g, .string s, .int .i64 x]] w fun e w' => e = .returned (.agg #[.bool false, .string ⟨#[]⟩, .int .i64 0]) ∧ Below w.heap.size w w' := by
  have H := Lib.hid h
  clear h
  go_enter Tryd.func17, Tryd.ntmps17
  go_wp2_with (go_at_call 16; refine (DSign_bad _ _ _ _ hs H.out).mono ?_; rintro e w1 ⟨rfl, hb⟩; obtain ⟨hc, hfz⟩ := bcell hb; have hz := sz2 hb)
  refine bodyPost_ret (v := .agg #[.bool false, .string ⟨#[]⟩, .int .i64 0]) (by simp [results, Tryd.results17, go_sem, hc, hz]) rfl ⟨rfl, ?_⟩
  repeat (refine Below.setCell ?_ (by simp) _)
  exact box2 hb
set_option maxRecDepth 100000 in
theorem DNeg_num (g : Bool) (n : Nat) (x : Int) (w : World) (hf : fits n) (ho : n % 2 = 1) (h1 : -1048576 ≤ x) (h2 : x ≤ 1048576) :
    Calls Tryd.prog 17 #[.agg #[.bool g, .string (natS n), .int .i64 x]] w fun e w' => e = .returned (.agg #[.bool (!g), .string (natS n), .int .i64 x]) ∧ Below w.heap.size w w' := by
  have HO := Lib.hid ho
  have hg := sgn_ne g
  have hg2 := sgn_ne2 g
  clear ho
  go_enter Tryd.func17, Tryd.ntmps17
  go_wp2_with (go_at_call 16; refine (DSign_num _ _ _ _ hf HO.out h1 h2).mono ?_; rintro e w1 ⟨rfl, hb⟩; obtain ⟨hc, hfz⟩ := bcell hb; have hz := sz2 hb; have hc0 : w1.cell? ⟨w.heap.size, 0, none⟩ = some (.bool g) := (hc _ _ (by simp; omega)).trans (by simp [go_sem]); have hs0 : (w1.cell? ⟨w.heap.size, 0, none⟩).isSome = true := (by rw [hc0]; rfl))
  refine bodyPost_ret (v := .agg #[.bool (!g), .string (natS n), .int .i64 x]) (by simp [results, Tryd.results17, go_sem, hc, hz]) rfl ⟨rfl, ?_⟩
  repeat (refine Below.setCell ?_ (by simp) _)
  exact box2 hb
set_option maxRecDepth 100000 in
theorem DAbs_zero (w : World) : Calls Tryd.prog 18 #[.agg #[.bool false, .string ⟨#[]⟩, .int .i64 0]] w fun e w' => e = .returned (.agg #[.bool false, .string ⟨#[]⟩, .int .i64 0]) ∧ Below w.heap.size w w' := by
  go_enter Tryd.func18, Tryd.ntmps18
  go_upto_region 3 with (go_at_call 16; refine (DSign_zero _).mono ?_; rintro e w1 ⟨rfl, hb⟩; obtain ⟨hc, hfz⟩ := bcell hb; have hz := sz2 hb)
  go_wp2_with (go_at_call 16; refine (DSign_zero _).mono ?_; rintro e w2 ⟨rfl, hb'⟩; obtain ⟨hc', hfz'⟩ := bcell hb'; have hz' := size_big hb' hz)
  refine bodyPost_ret (v := .agg #[.bool false, .string ⟨#[]⟩, .int .i64 0]) (by simp [results, Tryd.results18, go_sem, hc, hz, hc', hz']) rfl ⟨rfl, ?_⟩
  repeat (refine Below.setCell ?_ (by simp) _)
  exact (box2 hb).trans (hb'.mono (by omega))
set_option maxRecDepth 100000 in
theorem DAbs_bad (g : Bool) (s : ByteArray) (x : Int) (w : World) (hs : s.size ≤ 9223372036854775807) (h : ¬ DOk g s x) : Calls Tryd.prog 18 #[.agg #[.bool g, .string s, .int .i64 x]] w fun e w' => e = .returned (.agg #[.bool false, .string ⟨#[]⟩, .int .i64 0]) ∧ Below w.heap.size w w' := by
  have H := Lib.hid h
  clear h
  go_enter Tryd.func18, Tryd.ntmps18
  go_upto_region 3 with (go_at_call 16; refine (DSign_bad _ _ _ _ hs H.out).mono ?_; rintro e w1 ⟨rfl, hb⟩; obtain ⟨hc, hfz⟩ := bcell hb; have hz := sz2 hb)
  go_wp2_with (go_at_call 16; refine (DSign_bad _ _ _ _ hs H.out).mono ?_; rintro e w2 ⟨rfl, hb'⟩; obtain ⟨hc', hfz'⟩ := bcell hb'; have hz' := size_big hb' hz)
  refine bodyPost_ret (v := .agg #[.bool false, .string ⟨#[]⟩, .int .i64 0]) (by simp [results, Tryd.results18, go_sem, hc, hz, hc', hz']) rfl ⟨rfl, ?_⟩
  repeat (refine Below.setCell ?_ (by simp) _)
  exact (box2 hb).trans (hb'.mono (by omega))
set_option maxRecDepth 100000 in
theorem DAbs_num (g : Bool) (n : Nat) (x : Int) (w : World) (hf : fits n) (ho : n % 2 = 1) (h1 : -1048576 ≤ x) (h2 : x ≤ 1048576) :
    Calls Tryd.prog 18 #[.agg #[.bool g, .string (natS n), .int .i64 x]] w fun e w' => e = .returned (.agg #[.bool false, .string (natS n), .int .i64 x]) ∧ Below w.heap.size w w' := by
  have HO := Lib.hid ho
  clear ho
  cases g
  · have hg := sgn_f
    go_enter Tryd.func18, Tryd.ntmps18
    go_upto_region 3 with (go_at_call 16; refine (DSign_num _ _ _ _ hf HO.out h1 h2).mono ?_; rintro e w1 ⟨rfl, hb⟩; obtain ⟨hc, hfz⟩ := bcell hb; have hz := sz2 hb; have hz0 : w.heap.size < w1.heap.size := (by omega))
    go_wp2_with (go_at_call 16; refine (DSign_num _ _ _ _ hf HO.out h1 h2).mono ?_; rintro e w2 ⟨rfl, hb'⟩; obtain ⟨hc', hfz'⟩ := bcell hb'; have hz' := size_big hb' hz)
    refine bodyPost_ret (v := .agg #[.bool false, .string (natS n), .int .i64 x]) (by simp [results, Tryd.results18, go_sem, hc, hz, hc', hz']) rfl ⟨rfl, ?_⟩
    repeat (refine Below.setCell ?_ (by simp) _)
    exact (box2 hb).trans (hb'.mono (by omega))
  · have hg := sgn_t
    go_enter Tryd.func18, Tryd.ntmps18
    go_wp2_with (first
      | (go_at_call 16; refine (DSign_num _ _ _ _ hf HO.out h1 h2).mono ?_; rintro e w1 ⟨rfl, hb⟩; obtain ⟨hc, hfz⟩ := bcell hb; have hz := sz2 hb; have hz0 : w.heap.size < w1.heap.size := (by omega))
      | (go_at_call 17; refine (DNeg_num _ _ _ _ hf HO.out h1 h2).mono ?_; rintro e w2 ⟨rfl, hb'⟩; obtain ⟨hc', hfz'⟩ := bcell hb'; have hz' := size_big hb' hz))
    refine bodyPost_ret (v := .agg #[.bool false, .string (natS n), .int .i64 x]) (by simp [results, Tryd.results18, go_sem, hc, hz, hc', hz']) rfl ⟨rfl, ?_⟩
    repeat (refine Below.setCell ?_ (by simp) _)
    exact (box2 hb).trans (hb'.mono (by omega))
end Go.Proofs.YtjkonfopajihdaaDoor
