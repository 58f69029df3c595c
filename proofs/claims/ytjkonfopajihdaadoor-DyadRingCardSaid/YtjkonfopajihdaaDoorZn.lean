/- Texts put together: D7 D22. -/
import Derived.Test.YtjkonfopajihdaaDoorZi
import Derived.Test.YtjkonfopajihdaaDoorZl
import Derived.Deep.RegionHeld3
set_option linter.unusedSimpArgs false
set_option linter.unusedVariables false
namespace Go.Proofs.YtjkonfopajihdaaDoor
open Go Go.RowKit Nt

/-- A Dyad stands at block B. -/
def BoxAt (w : World) (B : Nat) (g : Bool) (s : ByteArray) (x : Int) : Prop := B < w.heap.size ∧ w.cell? ⟨B, 0, none⟩ = some (.bool g) ∧ w.cell? ⟨B, 1, none⟩ = some (.string s) ∧ w.cell? ⟨B, 2, none⟩ = some (.int .i64 x)
theorem BoxAt.step {w w' : World} {B : Nat} {g : Bool} {s : ByteArray} {x : Int} (h : BoxAt w B g s x) (hb : Below w.heap.size w w') : BoxAt w' B g s x := by
  obtain ⟨h0, h1, h2, h3⟩ := h
  exact ⟨Nat.lt_of_lt_of_le h0 hb.size, (hb.cell (p := ⟨B, 0, none⟩) h0).trans h1, (hb.cell (p := ⟨B, 1, none⟩) h0).trans h2, (hb.cell (p := ⟨B, 2, none⟩) h0).trans h3⟩
theorem BoxAt.new (w : World) (g : Bool) (s : ByteArray) (x : Int) (T : TypeId) : BoxAt (w.alloc (.cells #[.bool g, .string s, .int .i64 x] T)) w.heap.size g s x :=
  ⟨by simp, (World.cell?_alloc_at _ _ _ _ rfl).trans rfl, (World.cell?_alloc_at _ _ _ _ rfl).trans rfl, (World.cell?_alloc_at _ _ _ _ rfl).trans rfl⟩
/-- From w on, with one Dyad in its box. -/
def On1 (w : World) (g : Bool) (s : ByteArray) (x : Int) (wc : World) : Prop := Below w.heap.size w wc ∧ BoxAt wc w.heap.size g s x
theorem On1.step {w : World} {g : Bool} {s : ByteArray} {x : Int} {wc w' : World} (h : On1 w g s x wc) (hb : Below wc.heap.size wc w') : On1 w g s x w' := ⟨below_chain h.1 hb, h.2.step hb⟩
theorem On1.new (w : World) (g : Bool) (s : ByteArray) (x : Int) (T : TypeId) : On1 w g s x (w.alloc (.cells #[.bool g, .string s, .int .i64 x] T)) := ⟨(Below.refl _ _).alloc (Nat.le_refl _) _, BoxAt.new w g s x T⟩
set_option maxRecDepth 100000 in
set_option maxHeartbeats 1000000 in
theorem DyadChecks_bad (g : Bool) (s : ByteArray) (x : Int) (w : World) (hs : s.size ≤ 9223372036854775807) (h : ¬ DOk g s x) (hG : Globs glT w) :
    Calls Tryd.prog 3 #[.agg #[.bool g, .string s, .int .i64 x]] w fun e w' => e = .returned (.bool true) ∧ Below w.heap.size w w' := by
  have H := Lib.hid h
  have G := Lib.hid hG
  clear hG
  have HO := On1.new w g s x 24
  clear h
  go_enter Tryd.func3, Tryd.ntmps3
  go_wp2_with (first
    | (go_at_call 13; refine (DTop_bad _ _ _ _ hs H.out).mono ?_; rintro e w1 ⟨rfl, hb⟩; replace HO := HO.step hb; obtain ⟨hz, c0, c1, c2⟩ := HO.2; clear hb)
    | (go_at_call 14; refine (rMay3_bad _ _ _ _ hs H.out).mono ?_; rintro e w1 ⟨rfl, hb⟩; replace HO := HO.step hb; obtain ⟨hz, c0, c1, c2⟩ := HO.2; clear hb)
    | (go_at_call 15; refine (DCheck_bad _ _ _ _ hs H.out).mono ?_; rintro e w1 ⟨rfl, hb⟩; replace HO := HO.step hb; obtain ⟨hz, c0, c1, c2⟩ := HO.2; clear hb)
    | (go_at_call 16; refine (DSign_bad _ _ _ _ hs H.out).mono ?_; rintro e w1 ⟨rfl, hb⟩; replace HO := HO.step hb; obtain ⟨hz, c0, c1, c2⟩ := HO.2; clear hb)
    | (go_at_call 17; refine (DNeg_bad _ _ _ _ hs H.out).mono ?_; rintro e w1 ⟨rfl, hb⟩; replace HO := HO.step hb; obtain ⟨hz, c0, c1, c2⟩ := HO.2; clear hb)
    | (go_at_call 18; refine (DAbs_bad _ _ _ _ hs H.out).mono ?_; rintro e w1 ⟨rfl, hb⟩; replace HO := HO.step hb; obtain ⟨hz, c0, c1, c2⟩ := HO.2; clear hb)
    | (go_at_call 19; refine (awake3_c _ (G.out.below HO.1 (Nat.le_refl _))).mono ?_; rintro e w1 ⟨rfl, hb⟩; replace HO := HO.step hb; clear hb))
  go_ret
  exact ⟨rfl, HO.1⟩
/-- And a second box, with the Dyad's magnitude. -/
def On2 (w : World) (g : Bool) (s : ByteArray) (x : Int) (B : Nat) (wc : World) : Prop := On1 w g s x wc ∧ BoxAt wc B false s x
theorem On2.step {w : World} {g : Bool} {s : ByteArray} {x : Int} {B : Nat} {wc w' : World} (h : On2 w g s x B wc) (hb : Below wc.heap.size wc w') : On2 w g s x B w' := ⟨h.1.step hb, h.2.step hb⟩
theorem On2.start {w : World} {g : Bool} {s : ByteArray} {x : Int} {w1 : World} {T : TypeId} (h : On1 w g s x w1) : On2 w g s x w1.heap.size ((w1.alloc (.cells #[.bool false, .string s, .int .i64 x] T)).drew) := by
  have e : Below w1.heap.size w1 (w1.alloc (.cells #[.bool false, .string s, .int .i64 x] T)) := (Below.refl _ _).alloc (Nat.le_refl _) _
  exact ⟨h.step e.drew, (BoxAt.new w1 false s x T).step (Below.refl _ _).drew⟩
set_option maxRecDepth 100000 in
set_option maxHeartbeats 2000000 in
theorem DyadChecks_num (g : Bool) (n : Nat) (x : Int) (w : World) (hf : fits n) (ho : n % 2 = 1) (h1 : -1048576 ≤ x) (h2 : x ≤ 1048576) (hG : Globs glT w) :
    Calls Tryd.prog 3 #[.agg #[.bool g, .string (natS n), .int .i64 x]] w fun e w' => e = .returned (.bool true) ∧ Below w.heap.size w w' := by
  have HN := Lib.hid ho
  have HZ := Lib.hid (odd_ne ho)
  have hb2 := bits_131072' hf
  have hw2 : IntKind.i64.wrap ((nd 2 n : Int) - 1 + x) = (nd 2 n : Int) - 1 + x := IntWalk.i64_in _ (by omega)
  have HO := On1.new w g (natS n) x 24
  clear ho
  go_enter Tryd.func3, Tryd.ntmps3
  go_upto_region 7 with (first
    | (go_at_call 13; refine (DTop_num _ _ _ _ hf HN.out h1 h2).mono ?_; rintro e w1 ⟨rfl, hb⟩; replace HO := HO.step hb; obtain ⟨hz, c0, c1, c2⟩ := HO.2; clear hb)
    | (go_at_call 14; refine (rMay3_num _ _ _ _ hf HN.out h1 h2).mono ?_; rintro e w1 ⟨rfl, hb⟩; replace HO := HO.step hb; obtain ⟨hz, c0, c1, c2⟩ := HO.2; clear hb)
    | (go_at_call 20; refine (rTop3_num _ _ _ _ hf HZ.out h1 h2).mono ?_; rintro e w1 ⟨rfl, hb⟩; replace HO := HO.step hb; obtain ⟨hz, c0, c1, c2⟩ := HO.2; clear hb))
  have T0 : On2 w g (natS n) x w1.heap.size ((w1.alloc (.cells #[.bool false, .string (natS n), .int .i64 x] 24)).drew) := On2.start HO
  have L0 := fun w' (h : On2 w g (natS n) x w1.heap.size w') => h.1.2.2.1
  have L1 := fun w' (h : On2 w g (natS n) x w1.heap.size w') => h.1.2.2.2.1
  have L2 := fun w' (h : On2 w g (natS n) x w1.heap.size w') => h.1.2.2.2.2
  have L3 := fun w' (h : On2 w g (natS n) x w1.heap.size w') => h.2.2.1
  have L4 := fun w' (h : On2 w g (natS n) x w1.heap.size w') => h.2.2.2.1
  have L5 := fun w' (h : On2 w g (natS n) x w1.heap.size w') => h.2.2.2.2
  have HG := Lib.hid (fun w' (h : On2 w g (natS n) x w1.heap.size w') => hG.below h.1.1 (Nat.le_refl _))
  clear hG
  go_region_held3 (On2 w g (natS n) x w1.heap.size) (first | assumption | exact On2.step (by assumption) (by assumption) | exact On2.step (by assumption) (Below.refl _ _).drew | exact On2.step (by assumption) (below_drewN (Below.refl _ _) _))
    (first
      | (go_at_call 15; refine (DCheck_num _ _ _ _ hf HN.out h1 h2).mono ?_; rintro e w' ⟨rfl, hb7⟩)
      | (go_at_call 16; refine (DSign_num _ _ _ _ hf HN.out h1 h2).mono ?_; rintro e w' ⟨rfl, hb7⟩)
      | (go_at_call 21; refine (rSign3_num _ _ _ _ HZ.out).mono ?_; rintro e w' ⟨rfl, hb7⟩)
      | (go_at_call 17; refine (DNeg_num _ _ _ _ hf HN.out h1 h2).mono ?_; rintro e w' ⟨rfl, hb7⟩)
      | (go_at_call 22; refine (rNeg3_num _ _ _ _ HZ.out).mono ?_; rintro e w' ⟨rfl, hb7⟩)
      | (go_at_call 18; refine (DAbs_num _ _ _ _ hf HN.out h1 h2).mono ?_; rintro e w' ⟨rfl, hb7⟩)
      | (go_at_call 19; refine (awake3_c _ (HG.out _ (by assumption))).mono ?_; rintro e w' ⟨rfl, hb7⟩))
  rename_i hHeld
  have hfin := hHeld.1.1
  clear hHeld
  go_wp2
  go_ret
  exact ⟨rfl, hfin⟩
set_option maxRecDepth 100000 in
set_option maxHeartbeats 2000000 in
theorem DyadChecks_zero (w : World) (hG : Globs glT w) :
    Calls Tryd.prog 3 #[.agg #[.bool false, .string ⟨#[]⟩, .int .i64 0]] w fun e w' => e = .returned (.bool true) ∧ Below w.heap.size w w' := by
  have HO := On1.new w false ⟨#[]⟩ 0 24
  go_enter Tryd.func3, Tryd.ntmps3
  go_upto_region 7 with (first
    | (go_at_call 13; refine (DTop_zero _).mono ?_; rintro e w1 ⟨rfl, hb⟩; replace HO := HO.step hb; obtain ⟨hz, c0, c1, c2⟩ := HO.2; clear hb)
    | (go_at_call 14; refine (rMay3_zero _).mono ?_; rintro e w1 ⟨rfl, hb⟩; replace HO := HO.step hb; obtain ⟨hz, c0, c1, c2⟩ := HO.2; clear hb)
    | (go_at_call 20; refine (rTop3_zero _).mono ?_; rintro e w1 ⟨rfl, hb⟩; replace HO := HO.step hb; obtain ⟨hz, c0, c1, c2⟩ := HO.2; clear hb))
  have T0 : On2 w false ⟨#[]⟩ 0 w1.heap.size ((w1.alloc (.cells #[.bool false, .string ⟨#[]⟩, .int .i64 0] 24)).drew) := On2.start HO
  have L0 := fun w' (h : On2 w false ⟨#[]⟩ 0 w1.heap.size w') => h.1.2.2.1
  have L1 := fun w' (h : On2 w false ⟨#[]⟩ 0 w1.heap.size w') => h.1.2.2.2.1
  have L2 := fun w' (h : On2 w false ⟨#[]⟩ 0 w1.heap.size w') => h.1.2.2.2.2
  have L3 := fun w' (h : On2 w false ⟨#[]⟩ 0 w1.heap.size w') => h.2.2.1
  have L4 := fun w' (h : On2 w false ⟨#[]⟩ 0 w1.heap.size w') => h.2.2.2.1
  have L5 := fun w' (h : On2 w false ⟨#[]⟩ 0 w1.heap.size w') => h.2.2.2.2
  have HG := Lib.hid (fun w' (h : On2 w false ⟨#[]⟩ 0 w1.heap.size w') => hG.below h.1.1 (Nat.le_refl _))
  clear hG
  go_region_held3 (On2 w false ⟨#[]⟩ 0 w1.heap.size) (first | assumption | exact On2.step (by assumption) (by assumption) | exact On2.step (by assumption) (Below.refl _ _).drew | exact On2.step (by assumption) (below_drewN (Below.refl _ _) _))
    (first
      | (go_at_call 15; refine (DCheck_zero _).mono ?_; rintro e w' ⟨rfl, hb7⟩)
      | (go_at_call 16; refine (DSign_zero _).mono ?_; rintro e w' ⟨rfl, hb7⟩)
      | (go_at_call 21; refine (rSign3_zero _).mono ?_; rintro e w' ⟨rfl, hb7⟩)
      | (go_at_call 17; refine (DNeg_zero _).mono ?_; rintro e w' ⟨rfl, hb7⟩)
      | (go_at_call 22; refine (rNeg3_zero _).mono ?_; rintro e w' ⟨rfl, hb7⟩)
      | (go_at_call 18; refine (DAbs_zero _).mono ?_; rintro e w' ⟨rfl, hb7⟩)
      | (go_at_call 19; refine (awake3_c _ (HG.out _ (by assumption))).mono ?_; rintro e w' ⟨rfl, hb7⟩))
  rename_i hHeld
  have hfin := hHeld.1.1
  clear hHeld
  go_wp2
  go_ret
  exact ⟨rfl, hfin⟩
theorem DyadChecks_law (g : Bool) (s : ByteArray) (x : Int) (w : World) (hs : s.size ≤ 9223372036854775807) (hG : Globs glT w) :
    Calls Tryd.prog 3 #[.agg #[.bool g, .string s, .int .i64 x]] w fun e w' => e = .returned (.bool true) ∧ Below w.heap.size w w' := by
  by_cases h : DOk g s x
  · rcases h with ⟨rfl, rfl, rfl⟩ | ⟨n, hf, ho, rfl, h1, h2⟩
    · exact DyadChecks_zero w hG
    · exact DyadChecks_num g n x w hf ho h1 h2 hG
  · exact DyadChecks_bad g s x w hs h hG
end Go.Proofs.YtjkonfopajihdaaDoor
set_option linter.unusedSimpArgs false
set_option linter.unusedVariables false
namespace Go.Proofs.YtjkonfopajihdaaDoor
open Go Go.RowKit Nt

/-- What both make: the same Dyad, the same error. -/
def Two (f g : FuncId) (args : Array Value) : Prop := ∃ (d : Dy) (e : Int), (∀ w, Globs glT w → Calls Tryd.prog f args w fun r w' => r = .returned (.tuple #[d.v, .int .i64 e]) ∧ Below w.heap.size w w') ∧ (∀ w, Calls Tryd.prog g args w fun r w' => r = .returned (.tuple #[d.v, .int .i64 e]) ∧ Below w.heap.size w w')
theorem two_of_ (z x : Int) (hz : -9223372036854775808 ≤ z ∧ z ≤ 9223372036854775807) (hx : -9223372036854775808 ≤ x ∧ x ≤ 9223372036854775807) : Two 23 24 #[.int .i64 z, .int .i64 x] :=
  ⟨mkD (decide (z < 0)) z.natAbs x, mkE z.natAbs x, fun w _ => DOf_c z x w hz hx, fun w => rOfD3_c z x w hz hx⟩
theorem two_make (g : Bool) (s : ByteArray) (x : Int) (hs : s.size ≤ 9223372036854775807) (hx : -9223372036854775808 ≤ x ∧ x ≤ 9223372036854775807) : Two 25 26 #[.bool g, .string s, .int .i64 x] := by
  by_cases h : May s
  · obtain ⟨n, hf, rfl⟩ := may_num h
    exact ⟨mkD g n x, mkE n x, fun w _ => DMake_c g n x w hf hx, fun w => rMake3_c g n x w hf hx⟩
  · refine ⟨Dy.zero, 2, fun w _ => ?_, fun w => ?_⟩
    · rw [Dy.zero_v]; exact DMake_bad g s x w h
    · rw [Dy.zero_v]; exact rMake3_bad g s x w hs h
theorem two_float (x : Nat) (hx : x < 18446744073709551616) : Two 27 28 #[.float .f64 x] := by
  by_cases h : Bt.finB x = true
  · exact ⟨mkD (Bt.Ff.sgn x) (Bt.pm x) (Bt.pex x), 0, fun w hG => DFloat_c x hx h w (tabs_of hG), fun w => rFrom3_c x hx h w⟩
  · have h' : Bt.finB x = false := by simpa using h
    refine ⟨Dy.zero, 5, fun w _ => ?_, fun w => ?_⟩
    · rw [Dy.zero_v]; exact DFloat_no x hx h' w
    · rw [Dy.zero_v]; exact rFrom3_no x hx h' w
/-- A Dyad in a block. -/
def Box3 (w : World) (B : Nat) (a b c : Value) : Prop := Blk w B 24 #[a, b, c]
theorem Box3.facts {w : World} {B : Nat} {a b c : Value} (h : Box3 w B a b c) : B < w.heap.size ∧ w.cell? ⟨B, 0, none⟩ = some a ∧ w.cell? ⟨B, 1, none⟩ = some b ∧ w.cell? ⟨B, 2, none⟩ = some c ∧ w.frozen? ⟨B, 0, none⟩ = false ∧ w.frozen? ⟨B, 1, none⟩ = false ∧ w.frozen? ⟨B, 2, none⟩ = false :=
  ⟨Blk.lt h, (Blk.cell h 0).trans rfl, (Blk.cell h 1).trans rfl, (Blk.cell h 2).trans rfl, Blk.frozen h 0, Blk.frozen h 1, Blk.frozen h 2⟩
theorem Box3.step {w w' : World} {B : Nat} {a b c : Value} (h : Box3 w B a b c) (hb : Below w.heap.size w w') : Box3 w' B a b c := Blk.below h hb (Blk.lt h)
theorem Box3.new (w : World) (a b c : Value) : Box3 (w.alloc (.cells #[a, b, c] 24)) w.heap.size a b c := Blk.new w _ _
theorem Box3.more {w : World} {B : Nat} {a b c : Value} (h : Box3 w B a b c) (o : Obj) : Box3 (w.alloc o) B a b c := Blk.alloc h o
theorem Box3.put {w : World} {B : Nat} {a b c : Value} (h : Box3 w B a b c) (a' b' c' : Value) : Box3 (((w.setCell ⟨B, 0, none⟩ a').setCell ⟨B, 1, none⟩ b').setCell ⟨B, 2, none⟩ c') B a' b' c' := by
  have := ((Blk.set_ h 0 a').set_ 1 b').set_ 2 c'
  unfold Box3
  simpa using this
theorem Box3.far {w : World} {B C : Nat} {a b c : Value} (h : Box3 w B a b c) (hne : B ≠ C) (a' b' c' : Value) : Box3 (((w.setCell ⟨C, 0, none⟩ a').setCell ⟨C, 1, none⟩ b').setCell ⟨C, 2, none⟩ c') B a b c :=
  Blk.far (Blk.far (Blk.far h (p := ⟨C, 0, none⟩) hne a') (p := ⟨C, 1, none⟩) hne b') (p := ⟨C, 2, none⟩) hne c'
theorem below_put {n : Nat} {w W : World} {A : Nat} (hb : Below n w W) (hA : n ≤ A) (a' b' c' : Value) : Below n w (((W.setCell ⟨A, 0, none⟩ a').setCell ⟨A, 1, none⟩ b').setCell ⟨A, 2, none⟩ c') :=
  ((hb.setCell (p := ⟨A, 0, none⟩) hA a').setCell (p := ⟨A, 1, none⟩) hA b').setCell (p := ⟨A, 2, none⟩) hA c'
theorem below_then {a b c : World} (h1 : Below a.heap.size a b) (h2 : Below b.heap.size b c) : Below a.heap.size a c := h1.trans (h2.mono h1.size)
set_option maxRecDepth 100000 in
set_option maxHeartbeats 1000000 in
theorem DyadMakes_law (z : Int) (g : Bool) (s : ByteArray) (x : Int) (fl : Nat) (w : World) (hz : -9223372036854775808 ≤ z ∧ z ≤ 9223372036854775807) (hs : s.size ≤ 9223372036854775807) (hx : -9223372036854775808 ≤ x ∧ x ≤ 9223372036854775807) (hfl : fl < 18446744073709551616) (hG : Globs glT w) :
    Calls Tryd.prog 4 #[.int .i64 z, .bool g, .string s, .int .i64 x, .float .f64 fl] w fun e w' => e = .returned (.bool true) ∧ Below w.heap.size w w' := by
  obtain ⟨d1, e1, K1, L1⟩ := two_of_ z x hz hx
  obtain ⟨d2, e2, K2, L2⟩ := two_make g s x hs hx
  obtain ⟨d3, e3, K3, L3⟩ := two_float fl hfl
  obtain ⟨g1, n1, x1⟩ := d1
  obtain ⟨g2, n2, x2⟩ := d2
  obtain ⟨g3, n3, x3⟩ := d3
  have K1 := Lib.hid K1
  have K2 := Lib.hid K2
  have K3 := Lib.hid K3
  have L1 := Lib.hid L1
  have L2 := Lib.hid L2
  have L3 := Lib.hid L3
  have HG := Lib.hid hG
  clear hz hs hx hfl hG
  go_enter Tryd.func4, Tryd.ntmps4
  go_wp2_with fail
  refine (K1.out _ HG.out).mono ?_
  rintro e w1 ⟨rfl, hb1⟩
  unfold Dy.v
  go_wp2_with fail
  refine (L1.out _).mono ?_
  rintro e w2 ⟨rfl, hb2⟩
  have X := (Box3.new w1 (.bool g1) (.string (natS n1)) (.int .i64 x1)).step hb2
  have hb := below_chain hb1 (box_below hb2)
  obtain ⟨A, hA⟩ : ∃ A, A = w1.heap.size := ⟨_, rfl⟩
  have hAw : w.heap.size ≤ A := by rw [hA]; exact hb1.size
  rw [← hA] at X ⊢
  clear hb1 hb2 hA
  unfold Dy.v
  obtain ⟨p0, p1, p2, p3, p4, p5, p6⟩ := X.facts
  go_wp2_with fail
  refine (K2.out _ (HG.out.below (hb.trans ((Below.refl _ _).alloc hb.size _)) (Nat.le_refl _))).mono ?_
  rintro e w3 ⟨rfl, hb3⟩
  have Y := (Box3.new w2 (.bool g1) (.string (natS n1)) (.int .i64 x1)).step hb3
  have X := (X.more (.cells #[.bool g1, .string (natS n1), .int .i64 x1] 24)).step hb3
  have hb := below_chain hb (box_below hb3)
  have hne : A ≠ w2.heap.size := by omega
  obtain ⟨B, hB⟩ : ∃ B, B = w2.heap.size := ⟨_, rfl⟩
  have hBw : w.heap.size ≤ B := by omega
  rw [← hB] at Y hne ⊢
  clear hb3 hB p0 p1 p2 p3 p4 p5 p6
  obtain ⟨p0, p1, p2, p3, p4, p5, p6⟩ := X.facts
  obtain ⟨q0, q1, q2, q3, q4, q5, q6⟩ := Y.facts
  unfold Dy.v
  go_wp2_with fail
  refine (L2.out _).mono ?_
  rintro e w4 ⟨rfl, hb4⟩
  have Y := (Y.far hne.symm (.bool g2) (.string (natS n2)) (.int .i64 x2)).step hb4
  have X := (X.put (.bool g2) (.string (natS n2)) (.int .i64 x2)).step hb4
  have hb := below_then (below_put hb hAw _ _ _) hb4
  clear hb4 p0 p1 p2 p3 p4 p5 p6 q0 q1 q2 q3 q4 q5 q6
  obtain ⟨p0, p1, p2, p3, p4, p5, p6⟩ := X.facts
  obtain ⟨q0, q1, q2, q3, q4, q5, q6⟩ := Y.facts
  unfold Dy.v
  go_wp2_with fail
  refine (K3.out _ (HG.out.below (below_put hb hBw _ _ _) (Nat.le_refl _))).mono ?_
  rintro e w5 ⟨rfl, hb5⟩
  have X := (X.far hne (.bool g2) (.string (natS n2)) (.int .i64 x2)).step hb5
  have Y := (Y.put (.bool g2) (.string (natS n2)) (.int .i64 x2)).step hb5
  have hb := below_then (below_put hb hBw _ _ _) hb5
  clear hb5 p0 p1 p2 p3 p4 p5 p6 q0 q1 q2 q3 q4 q5 q6
  obtain ⟨p0, p1, p2, p3, p4, p5, p6⟩ := X.facts
  obtain ⟨q0, q1, q2, q3, q4, q5, q6⟩ := Y.facts
  unfold Dy.v
  go_wp2_with fail
  refine (L3.out _).mono ?_
  rintro e w6 ⟨rfl, hb6⟩
  have Y := (Y.far hne.symm (.bool g3) (.string (natS n3)) (.int .i64 x3)).step hb6
  have X := (X.put (.bool g3) (.string (natS n3)) (.int .i64 x3)).step hb6
  have hb := below_then (below_put hb hAw _ _ _) hb6
  clear hb6 p0 p1 p2 p3 p4 p5 p6 q0 q1 q2 q3 q4 q5 q6
  obtain ⟨p0, p1, p2, p3, p4, p5, p6⟩ := X.facts
  obtain ⟨q0, q1, q2, q3, q4, q5, q6⟩ := Y.facts
  unfold Dy.v
  go_wp2_with fail
  refine (awake3_c _ (HG.out.below (below_put hb hBw _ _ _) (Nat.le_refl _))).mono ?_
  rintro e w7 ⟨rfl, hb7⟩
  have hb := below_then (below_put hb hBw _ _ _) hb7
  go_wp2_with fail
  go_ret
  exact ⟨rfl, hb⟩
end Go.Proofs.YtjkonfopajihdaaDoor
