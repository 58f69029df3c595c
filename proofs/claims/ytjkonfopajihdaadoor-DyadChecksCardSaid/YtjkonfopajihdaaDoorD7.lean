/- Layer 3 (dyad): what stands in the box of a Dyad as a call goes on; DyadChecks. -/
import Derived.Test.YtjkonfopajihdaaDoorD5
import Derived.Test.YtjkonfopajihdaaDoorD6
import Derived.Deep.RegionHeld3
set_option linter.unusedSimpArgs false
set_option linter.unusedVariables false
namespace Go.Proofs.YtjkonfopajihdaaDoor
open Go Go.RowKit Nt

/-- A Dyad stands at block B. -/
def BoxAt (w : World) (B : Nat) (g : Bool) (s : ByteArray) (x : Int) : Prop := B < w.heap.size ∧ w.cell? ⟨B, 0, none⟩ = some (.bool g) ∧ w.cell? ⟨B, 1, none⟩ = some (.string s) ∧ w.cell? ⟨B, 2, none⟩ = some (.int .i64 x)
theorem BoxAt.step {w w' : World} {B : Nat} {g : Bool} {s : ByteArray} {x : Int} (h : BoxAt w B g s x) (hb : Below w.heap.size w w') : BoxAt w' B g s x := by
  obtain ⟨h0, h1, h2, h3⟩ := h
  exact ⟨Nat.lt_of_lt_of_le h0 hb.size, (hb.cell (p := ⟨B, 0, none⟩) h0).trans h1, (hb.cell (p := ⟨B, 1, none⟩) h0).trans h2, (hb.cell (p := ⟨B, 2, none⟩) h0).trans h3⟩
theorem BoxAt.new (w : World) (g : Bool) (s : ByteArray) (x : Int) (T : TypeId) : BoxAt (w.alloc (.cells #[.bool g, .string s, .int .i64 x] T)) w.heap.size g s x :=
  ⟨by simp, (World.cell?_alloc_at _ _ _ _ rfl).trans rfl, (World.cell?_alloc_at _ _ _ _ rfl).trans rfl, (World.cell?_alloc_at _ _ _ _ rfl).trans rfl⟩
/-- From w on, with one Dyad in its box. -/
def On1 (w : World) (g : Bool) (s : ByteArray) (x : Int) (wc : World) : Prop := Below w.heap.size w wc ∧ BoxAt wc w.heap.size g s x
theorem On1.step {w : World} {g : Bool} {s : ByteArray} {x : Int} {wc w' : World} (h : On1 w g s x wc) (hb : Below wc.heap.size wc w') : On1 w g s x w' := ⟨below_chain h.1 hb, h.2.step hb⟩
theorem On1.new (w : World) (g : Bool) (s : ByteArray) (x : Int) (T : TypeId) : On1 w g s x (w.alloc (.cells #[.bool g, .string s, .int .i64 x] T)) := ⟨(Below.refl _ _).alloc (Nat.le_refl _) _, BoxAt.new w g s x T⟩
set_option maxRecDepth 100000 in
set_option maxHeartbeats 1000000 in
theorem DyadChecks_bad (g : Bool) (s : ByteArray) (x : Int) (w : World) (hs : s.size ≤ 9223372036854775807) (h : ¬ DOk g s x) (hG : Globs glT w) :
    Calls Tryd.prog 3 #[.agg #[.bool g, .string s, .int .i64 x]] w fun e w' => e = .returned (.bool true) ∧ Below w.heap.size w w' := by
  have H := Lib.hid h
  have G := Lib.hid hG
  clear hG
  have HO := On1.new w g s x 24
  clear h
  go_enter Tryd.func3, Tryd.ntmps3
  go_wp2_with (first
    | (go_at_call 13; refine (DTop_bad _ _ _ _ hs H.out).mono ?_; rintro e w1 ⟨rfl, hb⟩; replace HO := HO.step hb; obtain ⟨hz, c0, c1, c2⟩ := HO.2; clear hb)
    | (go_at_call 14; refine (rMay3_bad _ _ _ _ hs H.out).mono ?_; rintro e w1 ⟨rfl, hb⟩; replace HO := HO.step hb; obtain ⟨hz, c0, c1, c2⟩ := HO.2; clear hb)
    | (go_at_call 15; refine (DCheck_bad _ _ _ _ hs H.out).mono ?_; rintro e w1 ⟨rfl, hb⟩; replace HO := HO.step hb; obtain ⟨hz, c0, c1, c2⟩ := HO.2; clear hb)
    | (go_at_call 16; refine (DSign_bad _ _ _ _ hs H.out).mono ?_; rintro e w1 ⟨rfl, hb⟩; replace HO := HO.step hb; obtain ⟨hz, c0, c1, c2⟩ := HO.2; clear hb)
    | (go_at_call 17; refine (DNeg_bad _ _ _ _ hs H.out).mono ?_; rintro e w1 ⟨rfl, hb⟩; replace HO := HO.step hb; obtain ⟨hz, c0, c1, c2⟩ := HO.2; clear hb)
    | (go_at_call 18; refine (DAbs_bad _ _ _ _ hs H.out).mono ?_; rintro e w1 ⟨rfl, hb⟩; replace HO := HO.step hb; obtain ⟨hz, c0, c1, c2⟩ := HO.2; clear hb)
    | (go_at_call 19; refine (awake3_c _ (G.out.below HO.1 (Nat.le_refl _))).mono ?_; rintro e w1 ⟨rfl, hb⟩; replace HO := HO.step hb; clear hb))
  go_ret
  exact ⟨rfl, HO.1⟩
/-- And a second box, with the Dyad's magnitude. -/
def On2 (w : World) (g : Bool) (s : ByteArray) (x : Int) (B : Nat) (wc : World) : Prop := On1 w g s x wc ∧ BoxAt wc B false s x
theorem On2.step {w : World} {g : Bool} {s : ByteArray} {x : Int} {B : Nat} {wc w' : World} (h : On2 w g s x B wc) (hb : Below wc.heap.size wc w') : On2 w g s x B w' := ⟨h.1.step hb, h.2.step hb⟩
theorem On2.start {w : World} {g : Bool} {s : ByteArray} {x : Int} {w1 : World} {T : TypeId} (h : On1 w g s x w1) : On2 w g s x w1.heap.size ((w1.alloc (.cells #[.bool false, .string s, .int .i64 x] T)).drew) := by
  have e : Below w1.heap.size w1 (w1.alloc (.cells #[.bool false, .string s, .int .i64 x] T)) := (Below.refl _ _).alloc (Nat.le_refl _) _
  exact ⟨h.step e.drew, (BoxAt.new w1 false s x T).step (Below.refl _ _).drew⟩
set_option maxRecDepth 100000 in
set_option maxHeartbeats 2000000 in
theorem DyadChecks_num (g : Bool) (n : Nat) (x : Int) (w : World) (hf : fits n) (ho : n % 2 = 1) (h1 : -1048576 ≤ x) (h2 : x ≤ 1048576) (hG : Globs glT w) :
    Calls Tryd.prog 3 #[.agg #[.bool g, .string (natS n), .int .i64 x]] w fun e w' => e = .returned (.bool true) ∧ Below w.heap.size w w' := by
  have HN := Lib.hid ho
  have HZ := Lib.hid (odd_ne ho)
  have hb2 := bits_131072' hf
  have hw2 : IntKind.i64.wrap ((nd 2 n : Int) - 1 + x) = (nd 2 n : Int) - 1 + x := IntWalk.i64_in _ (by omega)
  have HO := On1.new w g (natS n) x 24
  clear ho
  go_enter Tryd.func3, Tryd.ntmps3
  go_upto_region 7 with (first
    | (go_at_call 13; refine (DTop_num _ _ _ _ hf HN.out h1 h2).mono ?_; rintro e w1 ⟨rfl, hb⟩; replace HO := HO.step hb; obtain ⟨hz, c0, c1, c2⟩ := HO.2; clear hb)
    | (go_at_call 14; refine (rMay3_num _ _ _ _ hf HN.out h1 h2).mono ?_; rintro e w1 ⟨rfl, hb⟩; replace HO := HO.step hb; obtain ⟨hz, c0, c1, c2⟩ := HO.2; clear hb)
    | (go_at_call 20; refine (rTop3_num _ _ _ _ hf HZ.out h1 h2).mono ?_; rintro e w1 ⟨rfl, hb⟩; replace HO := HO.step hb; obtain ⟨hz, c0, c1, c2⟩ := HO.2; clear hb))
  have T0 : On2 w g (natS n) x w1.heap.size ((w1.alloc (.cells #[.bool false, .string (natS n), .int .i64 x] 24)).drew) := On2.start HO
  have L0 := fun w' (h : On2 w g (natS n) x w1.heap.size w') => h.1.2.2.1
  have L1 := fun w' (h : On2 w g (natS n) x w1.heap.size w') => h.1.2.2.2.1
  have L2 := fun w' (h : On2 w g (natS n) x w1.heap.size w') => h.1.2.2.2.2
  have L3 := fun w' (h : On2 w g (natS n) x w1.heap.size w') => h.2.2.1
  have L4 := fun w' (h : On2 w g (natS n) x w1.heap.size w') => h.2.2.2.1
  have L5 := fun w' (h : On2 w g (natS n) x w1.heap.size w') => h.2.2.2.2
  have HG := Lib.hid (fun w' (h : On2 w g (natS n) x w1.heap.size w') => hG.below h.1.1 (Nat.le_refl _))
  clear hG
  go_region_held3 (On2 w g (natS n) x w1.heap.size) (first | assumption | exact On2.step (by assumption) (by assumption) | exact On2.step (by assumption) (Below.refl _ _).drew | exact On2.step (by assumption) (below_drewN (Below.refl _ _) _))
    (first
      | (go_at_call 15; refine (DCheck_num _ _ _ _ hf HN.out h1 h2).mono ?_; rintro e w' ⟨rfl, hb7⟩)
      | (go_at_call 16; refine (DSign_num _ _ _ _ hf HN.out h1 h2).mono ?_; rintro e w' ⟨rfl, hb7⟩)
      | (go_at_call 21; refine (rSign3_num _ _ _ _ HZ.out).mono ?_; rintro e w' ⟨rfl, hb7⟩)
      | (go_at_call 17; refine (DNeg_num _ _ _ _ hf HN.out h1 h2).mono ?_; rintro e w' ⟨rfl, hb7⟩)
      | (go_at_call 22; refine (rNeg3_num _ _ _ _ HZ.out).mono ?_; rintro e w' ⟨rfl, hb7⟩)
      | (go_at_call 18; refine (DAbs_num _ _ _ _ hf HN.out h1 h2).mono ?_; rintro e w' ⟨rfl, hb7⟩)
      | (go_at_call 19; refine (awake3_c _ (HG.out _ (by assumption))).mono ?_; rintro e w' ⟨rfl, hb7⟩))
  rename_i hHeld
  have hfin := hHeld.1.1
  clear hHeld
  go_wp2
  go_ret
  exact ⟨rfl, hfin⟩
set_option maxRecDepth 100000 in
set_option maxHeartbeats 2000000 in
theorem DyadChecks_zero (w : World) (hG : Globs glT w) :
    Calls Tryd.prog 3 #[.agg #[.bool false, .string ⟨#[]⟩, .int .i64 0]] w fun e w' => e = .returned (.bool true) ∧ Below w.heap.size w w' := by
  have HO := On1.new w false ⟨#[]⟩ 0 24
  go_enter Tryd.func3, Tryd.ntmps3
  go_upto_region 7 with (first
    | (go_at_call 13; refine (DTop_zero _).mono ?_; rintro e w1 ⟨rfl, hb⟩; replace HO := HO.step hb; obtain ⟨hz, c0, c1, c2⟩ := HO.2; clear hb)
    | (go_at_call 14; refine (rMay3_zero _).mono ?_; rintro e w1 ⟨rfl, hb⟩; replace HO := HO.step hb; obtain ⟨hz, c0, c1, c2⟩ := HO.2; clear hb)
    | (go_at_call 20; refine (rTop3_zero _).mono ?_; rintro e w1 ⟨rfl, hb⟩; replace HO := HO.step hb; obtain ⟨hz, c0, c1, c2⟩ := HO.2; clear hb))
  have T0 : On2 w false ⟨#[]⟩ 0 w1.heap.size ((w1.alloc (.cells #[.bool false, .string ⟨#[]⟩, .int .i64 0] 24)).drew) := On2.start HO
  have L0 := fun w' (h : On2 w false ⟨#[]⟩ 0 w1.heap.size w') => h.1.2.2.1
  have L1 := fun w' (h : On2 w false ⟨#[]⟩ 0 w1.heap.size w') => h.1.2.2.2.1
  have L2 := fun w' (h : On2 w false ⟨#[]⟩ 0 w1.heap.size w') => h.1.2.2.2.2
  have L3 := fun w' (h : On2 w false ⟨#[]⟩ 0 w1.heap.size w') => h.2.2.1
  have L4 := fun w' (h : On2 w false ⟨#[]⟩ 0 w1.heap.size w') => h.2.2.2.1
  have L5 := fun w' (h : On2 w false ⟨#[]⟩ 0 w1.heap.size w') => h.2.2.2.2
  have HG := Lib.hid (fun w' (h : On2 w false ⟨#[]⟩ 0 w1.heap.size w') => hG.below h.1.1 (Nat.le_refl _))
  clear hG
  go_region_held3 (On2 w false ⟨#[]⟩ 0 w1.heap.size) (first | assumption | exact On2.step (by assumption) (by assumption) | exact On2.step (by assumption) (Below.refl _ _).drew | exact On2.step (by assumption) (below_drewN (Below.refl _ _) _))
    (first
      | (go_at_call 15; refine (DCheck_zero _).mono ?_; rintro e w' ⟨rfl, hb7⟩)
      | (go_at_call 16; refine (DSign_zero _).mono ?_; rintro e w' ⟨rfl, hb7⟩)
      | (go_at_call 21; refine (rSign3_zero _).mono ?_; rintro e w' ⟨rfl, hb7⟩)
      | (go_at_call 17; refine (DNeg_zero _).mono ?_; rintro e w' ⟨rfl, hb7⟩)
      | (go_at_call 22; refine (rNeg3_zero _).mono ?_; rintro e w' ⟨rfl, hb7⟩)
      | (go_at_call 18; refine (DAbs_zero _).mono ?_; rintro e w' ⟨rfl, hb7⟩)
      | (go_at_call 19; refine (awake3_c _ (HG.out _ (by assumption))).mono ?_; rintro e w' ⟨rfl, hb7⟩))
  rename_i hHeld
  have hfin := hHeld.1.1
  clear hHeld
  go_wp2
  go_ret
  exact ⟨rfl, hfin⟩
theorem DyadChecks_law (g : Bool) (s : ByteArray) (x : Int) (w : World) (hs : s.size ≤ 9223372036854775807) (hG : Globs glT w) :
    Calls Tryd.prog 3 #[.agg #[.bool g, .string s, .int .i64 x]] w fun e w' => e = .returned (.bool true) ∧ Below w.heap.size w w' := by
  by_cases h : DOk g s x
  · rcases h with ⟨rfl, rfl, rfl⟩ | ⟨n, hf, ho, rfl, h1, h2⟩
    · exact DyadChecks_zero w hG
    · exact DyadChecks_num g n x w hf ho h1 h2 hG
  · exact DyadChecks_bad g s x w hs h hG
end Go.Proofs.YtjkonfopajihdaaDoor
