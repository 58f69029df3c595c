/- Texts put together: EvT D6 D20 D5 D7 D22 D24 D25 D26 D27 D28 D30 D31 D32 D33 D34 D35 D36 D37 D38 D39 D40 D42 D43 SyD D46 D47 G1. -/
import Derived.Test.YtamcnnocjelcjaaGreatDoorV3
import Derived.Test.YtamcnnocjelcjaaGreatDoorRows
import Derived.LaidSub
import Derived.Lib.LaidTab
import Derived.Lib.TrailingZeros
import Derived.Test.YtamcnnocjelcjaaGreatDoorV4
import Derived.BigQuiet
import Derived.Deep.RegionHeld3
set_option linter.unusedSimpArgs false
set_option linter.unusedVariables false
namespace Go.Proofs.YtamcnnocjelcjaaGreatDoor
open Go Go.RowKit
theorem size_of_cell {w : World} {b o : Nat} {v : Value} (h : w.cell? ⟨b, o, none⟩ = some v) : b < w.heap.size := by
  unfold World.cell? at h
  cases hb : w.heap[b]? with
  | none => simp [hb] at h
  | some x => exact (Array.getElem?_eq_some_iff.1 hb).1
theorem gDe : Tryz.prog.globalNamed "math/bits.deBruijn64tab" = some 1 := by kernel_rfl
theorem gDeType : (Tryz.prog.globals[1]?).map (·.type) = some 183 := by kernel_rfl
theorem cDe : Tryz.prog.cellsOf 183 = 64 := by kernel_rfl
theorem cU8 : Tryz.prog.cellsOf 5 = 1 := by kernel_rfl
def glT : List (Nat × List AV) := [(1, Lib.deBruijn64tab.map fun (x : Nat) => AV.lit (.int .u8 (x : Nat)))]
theorem globs_of {W : World} {laid : List (String × DataW Unit)} (hl : laid.filter (fun x => x.1 == "math/bits.deBruijn64tab") = [("math/bits.deBruijn64tab", Rows.laid_math_bits_deBruijn64tab)]) (hL : laidMetH Tryz.prog laid W) : Globs glT W := by
  have h := hL.filter (fun x => x.1 == "math/bits.deBruijn64tab")
  rw [hl] at h
  have h1 : Lib.TabIs Tryz.prog W "math/bits.deBruijn64tab" .u8 (Lib.deBruijn64tab.map Int.ofNat) := Lib.tabIs_of_head (rest := []) gDe gDeType Tryz.underlying183 Tryz.underlying5 cU8 cDe h
  have hlen : Lib.deBruijn64tab.length = 64 := by decide
  have c1 : ∀ j, j < 64 → W.cell? ⟨1, j, none⟩ = some (.int .u8 ((Lib.deBruijn64tab.getD j 0 : Nat) : Int)) := fun j hj => by
    have := h1.cell gDe j (by rw [List.length_map, hlen]; exact hj)
    rw [this]; simp [List.getD]
    cases Lib.deBruijn64tab[j]? <;> rfl
  intro g B hB
  unfold glT at hB
  rw [look_cons] at hB
  split at hB
  · rename_i e
    injection hB with hB
    have e : 1 = g := e
    subst e hB
    refine ⟨size_of_cell (c1 0 (by decide)), fun i v hv => ?_⟩
    have hi : i < 64 := by
      have := (List.getElem?_eq_some_iff.1 hv).1
      rw [List.length_map, hlen] at this; exact this
    rw [List.getElem?_map] at hv
    cases hx : Lib.deBruijn64tab[i]? with
    | none => rw [hx] at hv; cases hv
    | some x =>
      rw [hx] at hv
      injection hv with hv
      refine ⟨_, hv.symm, ?_⟩
      rw [c1 i hi]
      simp [List.getD, hx]
  · cases hB
end Go.Proofs.YtamcnnocjelcjaaGreatDoor
namespace Go.Proofs.YtamcnnocjelcjaaGreatDoor
open Go Go.RowKit
theorem Globs.below {gl : List (Nat × List AV)} {w w' : World} (h : Globs gl w) {n : Nat} (hb : Below n w w') (hn : w.heap.size ≤ n) : Globs gl w' := fun g B hB => by
  obtain ⟨h1, h2⟩ := h g B hB
  refine ⟨Nat.lt_of_lt_of_le h1 hb.size, fun i v hv => ?_⟩
  obtain ⟨u, e, c⟩ := h2 i v hv
  exact ⟨u, e, (hb.cell (p := ⟨g, i, none⟩) (by show g < n; omega)).trans c⟩
end Go.Proofs.YtamcnnocjelcjaaGreatDoor
namespace Go.Proofs.YtamcnnocjelcjaaGreatDoor
open Go Go.RowKit Nt
theorem tabs_of {w : World} (h : Globs glT w) : Bt.Tabs w := by
  have hlk : look 1 glT = some (Lib.deBruijn64tab.map fun (x : Nat) => AV.lit (.int .u8 (x : Nat))) := by
    unfold glT; rw [look_cons, if_pos rfl]
  obtain ⟨h1, h2⟩ := h _ _ hlk
  refine ⟨fun j hj => ?_, h1⟩
  obtain ⟨u, e, c⟩ := h2 j (AV.lit (.int .u8 ((Lib.deBruijn64tab[j]'hj : Nat) : Int))) (by rw [List.getElem?_map, List.getElem?_eq_getElem hj]; rfl)
  injection e with e
  rw [c, ← e]
  simp [List.getD, List.getElem?_eq_getElem hj]
theorem box_tabs {w : World} {b : Obj} (h : Bt.Tabs w) : Bt.Tabs (w.alloc b) := h.below ((Below.refl _ _).alloc (Nat.le_refl _) _)
end Go.Proofs.YtamcnnocjelcjaaGreatDoor
namespace Go.Proofs.YtamcnnocjelcjaaGreatDoor
open Go Go.RowKit Nt
theorem boxd {w w1 : World} {b : Obj} (hb : Below ((w.alloc b).drew).heap.size ((w.alloc b).drew) w1) : Below w.heap.size w w1 := (((Below.refl _ _).alloc (Nat.le_refl _) _).drew).trans (hb.mono (show w.heap.size ≤ (w.alloc b).heap.size by simp))
set_option maxRecDepth 100000 in
set_option maxHeartbeats 1000000 in
theorem rTop3_num (g : Bool) (n : Nat) (x : Int) (w : World) (hf : fits n) (ho : n ≠ 0) (h1 : -1048576 ≤ x) (h2 : x ≤ 1048576) :
    Calls Tryz.prog 94 #[.agg #[.bool g, .string (natS n), .int .i64 x]] w fun e w' => e = .returned (.tuple #[.int .i64 ((nd 2 n : Nat) - 1 + x), .bool true]) ∧ Below w.heap.size w w' := by
  have hE := natS_full ho
  have hE2 := natS_full2 ho
  have hb2 := bits_131072' hf
  have hL : nd 256 n ≤ 1000000000 := by unfold fits at hf; omega
  have HO := Lib.hid ho
  have hw1 : IntKind.i64.wrap ((nd 2 n : Int) - 1) = (nd 2 n : Int) - 1 := IntWalk.i64_in _ (by omega)
  have hw2 : IntKind.i64.wrap ((nd 2 n : Int) - 1 + x) = (nd 2 n : Int) - 1 + x := IntWalk.i64_in _ (by omega)
  have hw3 : wrap64 ((nd 2 n : Int) - 1) = (nd 2 n : Int) - 1 := IntWalk.wrap64_in _ (by omega)
  have hw4 : wrap64 ((nd 2 n : Int) - 1 + x) = (nd 2 n : Int) - 1 + x := IntWalk.wrap64_in _ (by omega)
  clear ho
  go_enter Tryz.func94, Tryz.ntmps94
  go_upto_region 3 with fail
  go_region_with (first
    | (go_at_call 87; refine (rOf3_c n _ hL).mono ?_; rintro e w1 ⟨v, rfl, hown, hb⟩; obtain ⟨hc, hfz⟩ := bcell hb; obtain ⟨A, c, rfl, hcl⟩ := hown.len; rw [dl_length] at hown ⊢)
    | (go_at_call 124; refine (rBits3_c n _ _ _ _ hL hown).mono ?_; rintro e w2 ⟨rfl, rfl⟩))
  all_goals
    go_wp2
    go_ret2
    first
      | exact ⟨rfl, boxd hb⟩
      | exact ⟨rfl, (boxd hb).drew⟩
      | exact ⟨rfl, box_below hb⟩
      | exact ⟨rfl, (box_below hb).drew⟩
end Go.Proofs.YtamcnnocjelcjaaGreatDoor
namespace Go.Proofs.YtamcnnocjelcjaaGreatDoor
open Go Go.RowKit Nt
def BoxAt (w : World) (B : Nat) (g : Bool) (s : ByteArray) (x : Int) : Prop := B < w.heap.size ∧ w.cell? ⟨B, 0, none⟩ = some (.bool g) ∧ w.cell? ⟨B, 1, none⟩ = some (.string s) ∧ w.cell? ⟨B, 2, none⟩ = some (.int .i64 x)
theorem BoxAt.step {w w' : World} {B : Nat} {g : Bool} {s : ByteArray} {x : Int} (h : BoxAt w B g s x) (hb : Below w.heap.size w w') : BoxAt w' B g s x := by
  obtain ⟨h0, h1, h2, h3⟩ := h
  exact ⟨Nat.lt_of_lt_of_le h0 hb.size, (hb.cell (p := ⟨B, 0, none⟩) h0).trans h1, (hb.cell (p := ⟨B, 1, none⟩) h0).trans h2, (hb.cell (p := ⟨B, 2, none⟩) h0).trans h3⟩
theorem BoxAt.new (w : World) (g : Bool) (s : ByteArray) (x : Int) (T : TypeId) : BoxAt (w.alloc (.cells #[.bool g, .string s, .int .i64 x] T)) w.heap.size g s x :=
  ⟨by simp, (World.cell?_alloc_at _ _ _ _ rfl).trans rfl, (World.cell?_alloc_at _ _ _ _ rfl).trans rfl, (World.cell?_alloc_at _ _ _ _ rfl).trans rfl⟩
def On1 (w : World) (g : Bool) (s : ByteArray) (x : Int) (wc : World) : Prop := Below w.heap.size w wc ∧ BoxAt wc w.heap.size g s x
theorem On1.step {w : World} {g : Bool} {s : ByteArray} {x : Int} {wc w' : World} (h : On1 w g s x wc) (hb : Below wc.heap.size wc w') : On1 w g s x w' := ⟨below_chain h.1 hb, h.2.step hb⟩
theorem On1.new (w : World) (g : Bool) (s : ByteArray) (x : Int) (T : TypeId) : On1 w g s x (w.alloc (.cells #[.bool g, .string s, .int .i64 x] T)) := ⟨(Below.refl _ _).alloc (Nat.le_refl _) _, BoxAt.new w g s x T⟩
def On2 (w : World) (g : Bool) (s : ByteArray) (x : Int) (B : Nat) (wc : World) : Prop := On1 w g s x wc ∧ BoxAt wc B false s x
theorem On2.step {w : World} {g : Bool} {s : ByteArray} {x : Int} {B : Nat} {wc w' : World} (h : On2 w g s x B wc) (hb : Below wc.heap.size wc w') : On2 w g s x B w' := ⟨h.1.step hb, h.2.step hb⟩
theorem On2.start {w : World} {g : Bool} {s : ByteArray} {x : Int} {w1 : World} {T : TypeId} (h : On1 w g s x w1) : On2 w g s x w1.heap.size ((w1.alloc (.cells #[.bool false, .string s, .int .i64 x] T)).drew) := by
  have e : Below w1.heap.size w1 (w1.alloc (.cells #[.bool false, .string s, .int .i64 x] T)) := (Below.refl _ _).alloc (Nat.le_refl _) _
  exact ⟨h.step e.drew, (BoxAt.new w1 false s x T).step (Below.refl _ _).drew⟩
end Go.Proofs.YtamcnnocjelcjaaGreatDoor
namespace Go.Proofs.YtamcnnocjelcjaaGreatDoor
open Go Go.RowKit Nt
def Box3 (w : World) (B : Nat) (a b c : Value) : Prop := Blk w B 24 #[a, b, c]
theorem Box3.facts {w : World} {B : Nat} {a b c : Value} (h : Box3 w B a b c) : B < w.heap.size ∧ w.cell? ⟨B, 0, none⟩ = some a ∧ w.cell? ⟨B, 1, none⟩ = some b ∧ w.cell? ⟨B, 2, none⟩ = some c ∧ w.frozen? ⟨B, 0, none⟩ = false ∧ w.frozen? ⟨B, 1, none⟩ = false ∧ w.frozen? ⟨B, 2, none⟩ = false :=
  ⟨Blk.lt h, (Blk.cell h 0).trans rfl, (Blk.cell h 1).trans rfl, (Blk.cell h 2).trans rfl, Blk.frozen h 0, Blk.frozen h 1, Blk.frozen h 2⟩
theorem Box3.step {w w' : World} {B : Nat} {a b c : Value} (h : Box3 w B a b c) (hb : Below w.heap.size w w') : Box3 w' B a b c := Blk.below h hb (Blk.lt h)
theorem Box3.new (w : World) (a b c : Value) : Box3 (w.alloc (.cells #[a, b, c] 24)) w.heap.size a b c := Blk.new w _ _
theorem Box3.more {w : World} {B : Nat} {a b c : Value} (h : Box3 w B a b c) (o : Obj) : Box3 (w.alloc o) B a b c := Blk.alloc h o
theorem Box3.put {w : World} {B : Nat} {a b c : Value} (h : Box3 w B a b c) (a' b' c' : Value) : Box3 (((w.setCell ⟨B, 0, none⟩ a').setCell ⟨B, 1, none⟩ b').setCell ⟨B, 2, none⟩ c') B a' b' c' := by
  have := ((Blk.set_ h 0 a').set_ 1 b').set_ 2 c'
  unfold Box3
  simpa using this
theorem Box3.far {w : World} {B C : Nat} {a b c : Value} (h : Box3 w B a b c) (hne : B ≠ C) (a' b' c' : Value) : Box3 (((w.setCell ⟨C, 0, none⟩ a').setCell ⟨C, 1, none⟩ b').setCell ⟨C, 2, none⟩ c') B a b c :=
  Blk.far (Blk.far (Blk.far h (p := ⟨C, 0, none⟩) hne a') (p := ⟨C, 1, none⟩) hne b') (p := ⟨C, 2, none⟩) hne c'
theorem below_put {n : Nat} {w W : World} {A : Nat} (hb : Below n w W) (hA : n ≤ A) (a' b' c' : Value) : Below n w (((W.setCell ⟨A, 0, none⟩ a').setCell ⟨A, 1, none⟩ b').setCell ⟨A, 2, none⟩ c') :=
  ((hb.setCell (p := ⟨A, 0, none⟩) hA a').setCell (p := ⟨A, 1, none⟩) hA b').setCell (p := ⟨A, 2, none⟩) hA c'
theorem below_then {a b c : World} (h1 : Below a.heap.size a b) (h2 : Below b.heap.size b c) : Below a.heap.size a c := h1.trans (h2.mono h1.size)
end Go.Proofs.YtamcnnocjelcjaaGreatDoor
namespace Go.Proofs.YtamcnnocjelcjaaGreatDoor
open Go Go.RowKit Nt
def TB (w : World) (a b : Dt) (W : World) : Prop := Below w.heap.size w W ∧ Box3 W w.heap.size (.bool a.g) (.string a.s) (.int .i64 a.x) ∧ Box3 W (w.heap.size + 1) (.bool b.g) (.string b.s) (.int .i64 b.x)
theorem TB.start (w : World) (a b : Dt) : TB w a b ((w.alloc (.cells #[.bool a.g, .string a.s, .int .i64 a.x] 24)).alloc (.cells #[.bool b.g, .string b.s, .int .i64 b.x] 24)) := by
  have e : (w.alloc (.cells #[.bool a.g, .string a.s, .int .i64 a.x] 24)).heap.size = w.heap.size + 1 := by simp
  refine ⟨((Below.refl _ _).alloc (Nat.le_refl _) _).alloc (by simp) _, (Box3.new w _ _ _).more _, ?_⟩
  rw [← e]
  exact Box3.new _ _ _ _
theorem TB.step {w : World} {a b : Dt} {W W' : World} (h : TB w a b W) (hb : Below W.heap.size W W') : TB w a b W' := ⟨below_then h.1 hb, h.2.1.step hb, h.2.2.step hb⟩
theorem TB.more {w : World} {a b : Dt} {W : World} (h : TB w a b W) (o : Obj) : TB w a b (W.alloc o) := h.step ((Below.refl _ _).alloc (Nat.le_refl _) _)
theorem TB.drawn {w : World} {a b : Dt} {W : World} (h : TB w a b W) (n : Nat) : TB w a b (W.drewN n) := h.step (below_drewN (Below.refl _ _) n)
theorem TB.drew {w : World} {a b : Dt} {W : World} (h : TB w a b W) : TB w a b W.drew := h.step (Below.refl _ _).drew
@[irreducible] def topD (d : Dy) : Int := (nd 2 d.n : Nat) - 1 + d.x
theorem topD_eq (d : Dy) : topD d = (nd 2 d.n : Nat) - 1 + d.x := by unfold topD; rfl
@[irreducible] def upN (a b : Dy) : Nat := a.n * 2 ^ (a.x - b.x).toNat
theorem upN_eq (a b : Dy) : upN a b = a.n * 2 ^ (a.x - b.x).toNat := by unfold upN; rfl
@[irreducible] def magC (a b : Dy) : Int := if topD a < topD b then -1 else if topD b < topD a then 1 else cmpN (upN a b) (upN b a)
theorem magC_lt {a b : Dy} (h : topD a < topD b) : magC a b = -1 := by unfold magC; rw [if_pos h]
theorem magC_gt {a b : Dy} (h : topD b < topD a) : magC a b = 1 := by unfold magC; rw [if_neg (by omega), if_pos h]
theorem magC_eq {a b : Dy} (h : topD a = topD b) : magC a b = cmpN (upN a b) (upN b a) := by unfold magC; rw [if_neg (by omega), if_neg (by omega)]
def Dy.t (d : Dy) : Dt := ⟨d.g, natS d.n, d.x⟩
theorem Dy.t_ok {d : Dy} (h : d.Num) : d.t.Ok := Or.inr ⟨d.n, h.1, h.2.1, rfl, h.2.2.1, h.2.2.2⟩
theorem up_fits {a b : Dy} (ha : a.Num) (hb : b.Num) (h : topD a = topD b) (hx : b.x < a.x) : fits (a.n * 2 ^ (a.x - b.x).toNat) ∧ upN a b = a.n * 2 ^ (a.x - b.x).toNat ∧ upN b a = b.n := by
  refine ⟨(fits_shift (odd_ne ha.2.1)).2 ?_, upN_eq a b, ?_⟩
  · have h1 := bits_131072' hb.1
    rw [topD_eq, topD_eq] at h
    omega
  · rw [upN_eq, show (b.x - a.x).toNat = 0 by omega, Nat.pow_zero, Nat.mul_one]
set_option maxRecDepth 100000 in
set_option maxHeartbeats 2000000 in
theorem Dmag_c (a b : Dy) (w : World) (ha : a.Num) (hb : b.Num) :
    Calls Tryz.prog 37 #[.agg #[.bool a.g, .string (natS a.n), .int .i64 a.x], .agg #[.bool b.g, .string (natS b.n), .int .i64 b.x]] w fun e w' => e = .returned (.int .i64 (magC a b)) ∧ Below w.heap.size w w' := by
  have KA := Lib.hid (fun w => DTop_num a.g a.n a.x w ha.1 ha.2.1 ha.2.2.1 ha.2.2.2)
  have KB := Lib.hid (fun w => DTop_num b.g b.n b.x w hb.1 hb.2.1 hb.2.2.1 hb.2.2.2)
  rw [← topD_eq] at KA KB
  have HA := Lib.hid ha
  have HB := Lib.hid hb
  have hxa := ha.2.2
  have hxb := hb.2.2
  have T0 := TB.start w a.t b.t
  unfold Dy.t at T0
  have hcase : topD a < topD b ∨ topD b < topD a ∨ (topD a = topD b ∧ b.x < a.x) ∨ (topD a = topD b ∧ a.x < b.x) ∨ (topD a = topD b ∧ a.x = b.x) := by omega
  clear ha hb
  rcases hcase with h | h | ⟨h, hx⟩ | ⟨h, hx⟩ | ⟨h, hx⟩
  · have HE := Lib.hid (magC_lt h)
    generalize topD a = ta at *
    generalize topD b = tb at *
    go_enter Tryz.func37, Tryz.ntmps37
    go_wp2_with fail
    refine (KA.out _).mono ?_
    rintro e w1 ⟨rfl, hb⟩
    replace T0 := T0.step hb
    obtain ⟨p0, p1, p2, p3, p4, p5, p6⟩ := T0.2.1.facts
    obtain ⟨q0, q1, q2, q3, q4, q5, q6⟩ := T0.2.2.facts
    clear hb
    go_wp2_with fail
    refine (KB.out _).mono ?_
    rintro e w2 ⟨rfl, hb⟩
    replace T0 := T0.step hb
    clear hb p0 p1 p2 p3 p4 p5 p6 q0 q1 q2 q3 q4 q5 q6
    go_wp2_with fail
    go_ret
    exact ⟨by rw [HE.out]; rfl, T0.1⟩
  · have HE := Lib.hid (magC_gt h)
    generalize topD a = ta at *
    generalize topD b = tb at *
    go_enter Tryz.func37, Tryz.ntmps37
    go_wp2_with fail
    refine (KA.out _).mono ?_
    rintro e w1 ⟨rfl, hb⟩
    replace T0 := T0.step hb
    obtain ⟨p0, p1, p2, p3, p4, p5, p6⟩ := T0.2.1.facts
    obtain ⟨q0, q1, q2, q3, q4, q5, q6⟩ := T0.2.2.facts
    clear hb
    go_wp2_with fail
    refine (KB.out _).mono ?_
    rintro e w2 ⟨rfl, hb⟩
    replace T0 := T0.step hb
    clear hb p0 p1 p2 p3 p4 p5 p6 q0 q1 q2 q3 q4 q5 q6
    go_wp2_with fail
    go_ret
    exact ⟨by rw [HE.out]; rfl, T0.1⟩
  · obtain ⟨hf, hu, hv⟩ := up_fits HA.out HB.out h hx
    obtain ⟨j, hj⟩ : ∃ j, j = (a.x - b.x).toNat := ⟨_, rfl⟩
    rw [← hj] at hf hu
    have KS := Lib.hid (fun w => NShift_up a.n j w HA.out.1 (odd_ne HA.out.2.1) (by omega) hf)
    have KC : Hid (∀ w, Calls Tryz.prog 59 #[.string (natS (a.n * 2 ^ j)), .string (natS b.n)] w (IntPost (magC a b) 0 w)) := Lib.hid fun w => by
      rw [magC_eq h]
      rw [hu, hv]
      exact NCmp_c _ _ w hf HB.out.1
    have hjx : a.x - b.x = (j : Int) := by omega
    have hj0 : (0 : Int) < (j : Int) := by omega
    obtain ⟨z, hz⟩ : ∃ z, z = a.n * 2 ^ j := ⟨_, rfl⟩
    rw [← hz] at KS KC
    clear hf hu hv hj hx hz
    rw [h] at KA
    clear h
    generalize topD b = tb at *
    go_enter Tryz.func37, Tryz.ntmps37
    go_wp2_with fail
    refine (KA.out _).mono ?_
    rintro e w1 ⟨rfl, hb⟩
    replace T0 := T0.step hb
    obtain ⟨p0, p1, p2, p3, p4, p5, p6⟩ := T0.2.1.facts
    obtain ⟨q0, q1, q2, q3, q4, q5, q6⟩ := T0.2.2.facts
    clear hb
    go_wp2_with fail
    refine (KB.out _).mono ?_
    rintro e w2 ⟨rfl, hb⟩
    replace T0 := T0.step hb
    clear hb p0 p1 p2 p3 p4 p5 p6 q0 q1 q2 q3 q4 q5 q6
    obtain ⟨p0, p1, p2, p3, p4, p5, p6⟩ := T0.2.1.facts
    obtain ⟨q0, q1, q2, q3, q4, q5, q6⟩ := T0.2.2.facts
    go_wp2_with fail
    go_quiet (fail)
    rename_i nq
    replace T0 := T0.drawn nq
    generalize w2.drewN nq = w3 at *
    clear p0 p1 p2 p3 p4 p5 p6 q0 q1 q2 q3 q4 q5 q6
    obtain ⟨p0, p1, p2, p3, p4, p5, p6⟩ := T0.2.1.facts
    obtain ⟨q0, q1, q2, q3, q4, q5, q6⟩ := T0.2.2.facts
    go_wp2_with (first
      | (go_at_call 58; refine (KS.out _).mono ?_; rintro e w4 ⟨rfl, hb⟩; replace T0 := T0.step hb; clear hb)
      | (go_at_call 59; refine (KC.out _).mono ?_; rintro e w5 ⟨rfl, hb⟩; replace T0 := T0.step hb; clear hb))
    go_ret
    exact ⟨rfl, T0.1⟩
  · obtain ⟨hf, hu, hv⟩ := up_fits HB.out HA.out h.symm hx
    obtain ⟨j, hj⟩ : ∃ j, j = (b.x - a.x).toNat := ⟨_, rfl⟩
    rw [← hj] at hf hu
    have KS := Lib.hid (fun w => NShift_up b.n j w HB.out.1 (odd_ne HB.out.2.1) (by omega) hf)
    have KC : Hid (∀ w, Calls Tryz.prog 59 #[.string (natS a.n), .string (natS (b.n * 2 ^ j))] w (IntPost (magC a b) 0 w)) := Lib.hid fun w => by
      rw [magC_eq h]
      rw [hv, hu]
      exact NCmp_c _ _ w HA.out.1 hf
    have hjx : b.x - a.x = (j : Int) := by omega
    have hj0 : (0 : Int) < (j : Int) := by omega
    obtain ⟨z, hz⟩ : ∃ z, z = b.n * 2 ^ j := ⟨_, rfl⟩
    rw [← hz] at KS KC
    have hjn : a.x - b.x = -(j : Int) := by omega
    have hjm : ¬ (0 : Int) < -(j : Int) := by omega
    clear hf hu hv hj hx hz hjx
    rw [h] at KA
    clear h
    generalize topD b = tb at *
    go_enter Tryz.func37, Tryz.ntmps37
    go_wp2_with fail
    refine (KA.out _).mono ?_
    rintro e w1 ⟨rfl, hb⟩
    replace T0 := T0.step hb
    obtain ⟨p0, p1, p2, p3, p4, p5, p6⟩ := T0.2.1.facts
    obtain ⟨q0, q1, q2, q3, q4, q5, q6⟩ := T0.2.2.facts
    clear hb
    go_wp2_with fail
    refine (KB.out _).mono ?_
    rintro e w2 ⟨rfl, hb⟩
    replace T0 := T0.step hb
    clear hb p0 p1 p2 p3 p4 p5 p6 q0 q1 q2 q3 q4 q5 q6
    obtain ⟨p0, p1, p2, p3, p4, p5, p6⟩ := T0.2.1.facts
    obtain ⟨q0, q1, q2, q3, q4, q5, q6⟩ := T0.2.2.facts
    go_wp2_with fail
    go_quiet (fail)
    rename_i nq
    replace T0 := T0.drawn nq
    generalize w2.drewN nq = w3 at *
    clear p0 p1 p2 p3 p4 p5 p6 q0 q1 q2 q3 q4 q5 q6
    obtain ⟨p0, p1, p2, p3, p4, p5, p6⟩ := T0.2.1.facts
    obtain ⟨q0, q1, q2, q3, q4, q5, q6⟩ := T0.2.2.facts
    go_wp2_with (first
      | (go_at_call 58; refine (KS.out _).mono ?_; rintro e w4 ⟨rfl, hb⟩; replace T0 := T0.step hb; clear hb)
      | (go_at_call 59; refine (KC.out _).mono ?_; rintro e w5 ⟨rfl, hb⟩; replace T0 := T0.step hb; clear hb))
    go_ret
    exact ⟨rfl, T0.1⟩
  · have KS := Lib.hid (fun w => NShift_stay b.n w HB.out.1 (odd_ne HB.out.2.1))
    have KC : Hid (∀ w, Calls Tryz.prog 59 #[.string (natS a.n), .string (natS b.n)] w (IntPost (magC a b) 0 w)) := Lib.hid fun w => by
      rw [magC_eq h, upN_eq, upN_eq, show (a.x - b.x).toNat = 0 by omega, show (b.x - a.x).toNat = 0 by omega, Nat.pow_zero, Nat.mul_one, Nat.mul_one]
      exact NCmp_c _ _ w HA.out.1 HB.out.1
    have hjn : a.x - b.x = 0 := by omega
    rw [h] at KA
    clear h hx
    generalize topD b = tb at *
    go_enter Tryz.func37, Tryz.ntmps37
    go_wp2_with fail
    refine (KA.out _).mono ?_
    rintro e w1 ⟨rfl, hb⟩
    replace T0 := T0.step hb
    obtain ⟨p0, p1, p2, p3, p4, p5, p6⟩ := T0.2.1.facts
    obtain ⟨q0, q1, q2, q3, q4, q5, q6⟩ := T0.2.2.facts
    clear hb
    go_wp2_with fail
    refine (KB.out _).mono ?_
    rintro e w2 ⟨rfl, hb⟩
    replace T0 := T0.step hb
    clear hb p0 p1 p2 p3 p4 p5 p6 q0 q1 q2 q3 q4 q5 q6
    obtain ⟨p0, p1, p2, p3, p4, p5, p6⟩ := T0.2.1.facts
    obtain ⟨q0, q1, q2, q3, q4, q5, q6⟩ := T0.2.2.facts
    go_wp2_with fail
    go_quiet (fail)
    rename_i nq
    replace T0 := T0.drawn nq
    generalize w2.drewN nq = w3 at *
    clear p0 p1 p2 p3 p4 p5 p6 q0 q1 q2 q3 q4 q5 q6
    obtain ⟨p0, p1, p2, p3, p4, p5, p6⟩ := T0.2.1.facts
    obtain ⟨q0, q1, q2, q3, q4, q5, q6⟩ := T0.2.2.facts
    go_wp2_with (first
      | (go_at_call 58; refine (KS.out _).mono ?_; rintro e w4 ⟨rfl, hb⟩; replace T0 := T0.step hb; clear hb)
      | (go_at_call 59; refine (KC.out _).mono ?_; rintro e w5 ⟨rfl, hb⟩; replace T0 := T0.step hb; clear hb))
    go_ret
    exact ⟨rfl, T0.1⟩
end Go.Proofs.YtamcnnocjelcjaaGreatDoor
namespace Go.Proofs.YtamcnnocjelcjaaGreatDoor
open Go Go.RowKit Nt
@[irreducible] def sgD (d : Dy) : Int := if d.n = 0 then 0 else sgnI d.g
theorem sgD_zero : sgD Dy.zero = 0 := by unfold sgD Dy.zero; rfl
theorem sgD_num {d : Dy} (h : d.n ≠ 0) : sgD d = sgnI d.g := by unfold sgD; rw [if_neg h]
theorem sgD_ne {d : Dy} (h : d.n ≠ 0) : sgD d ≠ 0 := by rw [sgD_num h]; exact sgn_ne2 d.g
theorem Dy.num_of {d : Dy} (h : d.Ok) (hs : sgD d ≠ 0) : d.Num := by
  rcases h with rfl | h
  · exact absurd sgD_zero hs
  · exact h
theorem Dy.zero_of {d : Dy} (h : d.Ok) (hs : sgD d = 0) : d = Dy.zero := by
  rcases h with rfl | h
  · rfl
  · exact absurd hs (sgD_ne (odd_ne h.2.1))
theorem sgD_b (d : Dy) : sgD d = -1 ∨ sgD d = 0 ∨ sgD d = 1 := by
  unfold sgD
  by_cases h : d.n = 0
  · rw [if_pos h]; exact Or.inr (Or.inl rfl)
  · rw [if_neg h]
    cases d.g
    · exact Or.inr (Or.inr sgn_f)
    · exact Or.inl sgn_t
theorem Dy.ok_t {d : Dy} (h : d.Ok) : d.t.Ok := by
  rcases h with rfl | h
  · exact Or.inl ⟨natS_zero, rfl, rfl⟩
  · exact Dy.t_ok h
theorem Dy.small {d : Dy} (h : d.Ok) : (natS d.n).size ≤ 16384 := Dt.small (Dy.ok_t h)
theorem DSign_c (d : Dy) (h : d.Ok) (w : World) : Calls Tryz.prog 36 #[.agg #[.bool d.g, .string (natS d.n), .int .i64 d.x]] w fun e w' => e = .returned (.int .i64 (sgD d)) ∧ Below w.heap.size w w' := by
  rcases h with rfl | h
  · rw [sgD_zero]
    show Calls _ _ #[.agg #[.bool false, .string (natS 0), .int .i64 0]] _ _
    rw [natS_zero]; exact DSign_zero w
  · rw [sgD_num (odd_ne h.2.1)]
    exact DSign_num d.g d.n d.x w h.1 h.2.1 h.2.2.1 h.2.2.2
@[irreducible] def cmpD (a b : Dy) : Int := if sgD a < sgD b then -1 else if sgD b < sgD a then 1 else if sgD a = 0 then 0 else sgD a * magC a b
theorem cmpD_lt {a b : Dy} (h : sgD a < sgD b) : cmpD a b = -1 := by unfold cmpD; rw [if_pos h]
theorem cmpD_gt {a b : Dy} (h : sgD b < sgD a) : cmpD a b = 1 := by unfold cmpD; rw [if_neg (by omega), if_pos h]
theorem cmpD_zero {a b : Dy} (h : sgD a = sgD b) (h0 : sgD a = 0) : cmpD a b = 0 := by unfold cmpD; rw [if_neg (by omega), if_neg (by omega), if_pos h0]
theorem cmpD_eq {a b : Dy} (h : sgD a = sgD b) (h0 : sgD a ≠ 0) : cmpD a b = sgD a * magC a b := by unfold cmpD; rw [if_neg (by omega), if_neg (by omega), if_neg h0]
theorem cmpD_self (a : Dy) : cmpD a a = 0 := by
  by_cases h : sgD a = 0
  · exact cmpD_zero rfl h
  · rw [cmpD_eq rfl h, magC_eq rfl, cmpN_eq, Int.mul_zero]
theorem magC_b (a b : Dy) : magC a b = -1 ∨ magC a b = 0 ∨ magC a b = 1 := by
  unfold magC cmpN
  split
  · exact Or.inl rfl
  · split
    · exact Or.inr (Or.inr rfl)
    · split
      · exact Or.inl rfl
      · split
        · exact Or.inr (Or.inl rfl)
        · exact Or.inr (Or.inr rfl)
theorem dts2 (W : World) (a b : Dt) (T : TypeId) : Dts (W.alloc (.cells #[.bool a.g, .string a.s, .int .i64 a.x, .bool b.g, .string b.s, .int .i64 b.x] T)) (some ⟨W.heap.size, 0, none⟩) [a, b] := fun _ => by
  refine ⟨_, rfl, by simp, fun j hj => ?_⟩
  have hc : ∀ o, (W.alloc (.cells #[.bool a.g, .string a.s, .int .i64 a.x, .bool b.g, .string b.s, .int .i64 b.x] T)).cell? ⟨W.heap.size, o, none⟩ = #[.bool a.g, .string a.s, .int .i64 a.x, .bool b.g, .string b.s, .int .i64 b.x][o]? := fun o => (Blk.new W T _).cell o
  have hj2 : j = 0 ∨ j = 1 := by simp at hj; omega
  rcases hj2 with rfl | rfl
  · refine ⟨?_, ?_, ?_⟩
    · rw [Nat.zero_mul, add_plain0, hc]; rfl
    · rw [Nat.zero_mul, add_plain0, hc]; rfl
    · rw [Nat.zero_mul, add_plain0, hc]; rfl
  · refine ⟨?_, ?_, ?_⟩
    · rw [Nat.one_mul, add_plain0, hc]; rfl
    · rw [Nat.one_mul, add_plain0, hc]; rfl
    · rw [Nat.one_mul, add_plain0, hc]; rfl
theorem Dall2 (a b : Dt) (W : World) (T : TypeId) (A : Nat) (hA : A = W.heap.size) (ha : a.s.size ≤ 9223372036854775807) (hb : b.s.size ≤ 9223372036854775807) :
    Calls Tryz.prog 35 #[.slice (some ⟨A, 0, none⟩) 2 2] (W.alloc (.cells #[.bool a.g, .string a.s, .int .i64 a.x, .bool b.g, .string b.s, .int .i64 b.x] T)) fun e w' => e = .returned (.int .i64 (dE [a, b])) ∧ Below (W.alloc (.cells #[.bool a.g, .string a.s, .int .i64 a.x, .bool b.g, .string b.s, .int .i64 b.x] T)).heap.size (W.alloc (.cells #[.bool a.g, .string a.s, .int .i64 a.x, .bool b.g, .string b.s, .int .i64 b.x] T)) w' := by
  subst hA
  exact Dall_c _ 2 [a, b] _ (by simp) (fun t ht => by
    rcases List.mem_cons.1 ht with rfl | ht
    · exact ha
    · rw [List.mem_singleton.1 ht]; exact hb) (dts2 W a b T)
set_option maxRecDepth 100000 in
set_option maxHeartbeats 2000000 in
theorem DCmp_same (a : Dy) (w : World) (ha : a.Ok) :
    Calls Tryz.prog 14 #[.agg #[.bool a.g, .string (natS a.n), .int .i64 a.x], .agg #[.bool a.g, .string (natS a.n), .int .i64 a.x]] w fun e w' => e = .returned (.tuple #[.int .i64 (cmpD a a), .int .i64 0]) ∧ Below w.heap.size w w' := by
  have he : dE [a.t, a.t] = 0 := dE_ok fun t ht => by
    rcases List.mem_cons.1 ht with rfl | ht
    · exact Dy.ok_t ha
    · rw [List.mem_singleton.1 ht]; exact Dy.ok_t ha
  have KA := Lib.hid (fun W T A hA => Dall2 a.t a.t W T A hA (by have := Dy.small ha; show (natS a.n).size ≤ _; omega) (by have := Dy.small ha; show (natS a.n).size ≤ _; omega))
  rw [he] at KA
  have T0 := TB.start w a.t a.t
  unfold Dy.t at T0 KA
  have HC := Lib.hid (cmpD_self a)
  clear he
  go_enter Tryz.func14, Tryz.ntmps14
  go_wp2_with fail
  refine (KA.out _ _ _ (by simp)).mono ?_
  rintro e w1 ⟨rfl, hb⟩
  replace T0 := (T0.more _).step hb
  clear hb
  obtain ⟨p0, p1, p2, p3, p4, p5, p6⟩ := T0.2.1.facts
  obtain ⟨q0, q1, q2, q3, q4, q5, q6⟩ := T0.2.2.facts
  go_wp2_with fail
  go_ret2
  exact ⟨by rw [HC.out]; rfl, T0.1⟩
theorem ne_toList {m n : Nat} (h : m ≠ n) : ¬ (natS m).toList = (natS n).toList := fun c => h ((natS_list_eq m n).1 c)
theorem sm_wrap {s m : Int} (hs : s = -1 ∨ s = 0 ∨ s = 1) (hm : m = -1 ∨ m = 0 ∨ m = 1) : wrap64 (s * m) = s * m := by
  rcases hs with rfl | rfl | rfl <;> rcases hm with rfl | rfl | rfl <;> exact IntWalk.wrap64_in _ (by decide)
set_option maxRecDepth 100000 in
set_option maxHeartbeats 2000000 in
theorem DCmp_walk (g1 g2 : Bool) (n1 n2 : Nat) (x1 x2 s t m : Int) (w : World)
    (KA : Hid (∀ (W : World) (T : TypeId) (A : Nat), A = W.heap.size → Calls Tryz.prog 35 #[.slice (some ⟨A, 0, none⟩) 2 2] (W.alloc (.cells #[.bool g1, .string (natS n1), .int .i64 x1, .bool g2, .string (natS n2), .int .i64 x2] T)) fun e w' => e = .returned (.int .i64 0) ∧ Below (W.alloc (.cells #[.bool g1, .string (natS n1), .int .i64 x1, .bool g2, .string (natS n2), .int .i64 x2] T)).heap.size (W.alloc (.cells #[.bool g1, .string (natS n1), .int .i64 x1, .bool g2, .string (natS n2), .int .i64 x2] T)) w'))
    (SA : Hid (∀ w, Calls Tryz.prog 36 #[.agg #[.bool g1, .string (natS n1), .int .i64 x1]] w fun e w' => e = .returned (.int .i64 s) ∧ Below w.heap.size w w'))
    (SB : Hid (∀ w, Calls Tryz.prog 36 #[.agg #[.bool g2, .string (natS n2), .int .i64 x2]] w fun e w' => e = .returned (.int .i64 t) ∧ Below w.heap.size w w'))
    (KM : Hid (s = t → ∀ w, Calls Tryz.prog 37 #[.agg #[.bool g1, .string (natS n1), .int .i64 x1], .agg #[.bool g2, .string (natS n2), .int .i64 x2]] w fun e w' => e = .returned (.int .i64 m) ∧ Below w.heap.size w w'))
    (hsm : wrap64 (s * m) = s * m) (hne : ¬ g1 = g2 ∨ (g1 = g2 ∧ n1 ≠ n2) ∨ (g1 = g2 ∧ n1 = n2 ∧ ¬ x1 = x2)) :
    Calls Tryz.prog 14 #[.agg #[.bool g1, .string (natS n1), .int .i64 x1], .agg #[.bool g2, .string (natS n2), .int .i64 x2]] w fun e w' => e = .returned (.tuple #[.int .i64 (if s < t then -1 else if t < s then 1 else s * m), .int .i64 0]) ∧ Below w.heap.size w w' := by
  have T0 := TB.start w ⟨g1, natS n1, x1⟩ ⟨g2, natS n2, x2⟩
  have HSM := Lib.hid hsm
  clear hsm
  have go : ∀ (r : Int), (s < t ∧ r = -1) ∨ (¬ s < t ∧ t < s ∧ r = 1) ∨ (s = t ∧ r = s * m) → Calls Tryz.prog 14 #[.agg #[.bool g1, .string (natS n1), .int .i64 x1], .agg #[.bool g2, .string (natS n2), .int .i64 x2]] w fun e w' => e = .returned (.tuple #[.int .i64 r, .int .i64 0]) ∧ Below w.heap.size w w' := by
    intro r hr
    rcases hne with hg | ⟨hg, hn⟩ | ⟨hg, hn, hx⟩
    · skip
      rcases hr with ⟨h1, rfl⟩ | ⟨h0, h1, rfl⟩ | ⟨rfl, rfl⟩
      · go_enter Tryz.func14, Tryz.ntmps14
        go_wp2_with fail
        refine (KA.out _ _ _ (by simp)).mono ?_
        rintro e w1 ⟨rfl, hb⟩
        replace T0 := (T0.more _).step hb
        clear hb
        obtain ⟨p0, p1, p2, p3, p4, p5, p6⟩ := T0.2.1.facts
        obtain ⟨q0, q1, q2, q3, q4, q5, q6⟩ := T0.2.2.facts
        go_wp2_with fail
        clear p0 p1 p2 p3 p4 p5 p6 q0 q1 q2 q3 q4 q5 q6
        have L0 := fun W (h : TB w ⟨g1, natS n1, x1⟩ ⟨g2, natS n2, x2⟩ W) => h.2.1.facts.2.1
        have L1 := fun W (h : TB w ⟨g1, natS n1, x1⟩ ⟨g2, natS n2, x2⟩ W) => h.2.1.facts.2.2.1
        have L2 := fun W (h : TB w ⟨g1, natS n1, x1⟩ ⟨g2, natS n2, x2⟩ W) => h.2.1.facts.2.2.2.1
        have L3 := fun W (h : TB w ⟨g1, natS n1, x1⟩ ⟨g2, natS n2, x2⟩ W) => h.2.2.facts.2.1
        have L4 := fun W (h : TB w ⟨g1, natS n1, x1⟩ ⟨g2, natS n2, x2⟩ W) => h.2.2.facts.2.2.1
        have L5 := fun W (h : TB w ⟨g1, natS n1, x1⟩ ⟨g2, natS n2, x2⟩ W) => h.2.2.facts.2.2.2.1
        go_region_held3 (TB w ⟨g1, natS n1, x1⟩ ⟨g2, natS n2, x2⟩) (first | assumption | exact TB.step (by assumption) (by assumption) | exact TB.drew (by assumption) | exact TB.drawn (by assumption) _)
          (first
            | (go_at_call 36; with_reducible refine (SA.out _).mono ?_; rintro e w' ⟨rfl, hb7⟩)
            | (go_at_call 36; with_reducible refine (SB.out _).mono ?_; rintro e w' ⟨rfl, hb7⟩))
        rename_i hHeld
        clear T0 L0 L1 L2 L3 L4 L5
        obtain ⟨p0, p1, p2, p3, p4, p5, p6⟩ := hHeld.2.1.facts
        obtain ⟨q0, q1, q2, q3, q4, q5, q6⟩ := hHeld.2.2.facts
        go_wp2_with fail
        go_ret2
        exact ⟨rfl, hHeld.1⟩
      · go_enter Tryz.func14, Tryz.ntmps14
        go_wp2_with fail
        refine (KA.out _ _ _ (by simp)).mono ?_
        rintro e w1 ⟨rfl, hb⟩
        replace T0 := (T0.more _).step hb
        clear hb
        obtain ⟨p0, p1, p2, p3, p4, p5, p6⟩ := T0.2.1.facts
        obtain ⟨q0, q1, q2, q3, q4, q5, q6⟩ := T0.2.2.facts
        go_wp2_with fail
        clear p0 p1 p2 p3 p4 p5 p6 q0 q1 q2 q3 q4 q5 q6
        have L0 := fun W (h : TB w ⟨g1, natS n1, x1⟩ ⟨g2, natS n2, x2⟩ W) => h.2.1.facts.2.1
        have L1 := fun W (h : TB w ⟨g1, natS n1, x1⟩ ⟨g2, natS n2, x2⟩ W) => h.2.1.facts.2.2.1
        have L2 := fun W (h : TB w ⟨g1, natS n1, x1⟩ ⟨g2, natS n2, x2⟩ W) => h.2.1.facts.2.2.2.1
        have L3 := fun W (h : TB w ⟨g1, natS n1, x1⟩ ⟨g2, natS n2, x2⟩ W) => h.2.2.facts.2.1
        have L4 := fun W (h : TB w ⟨g1, natS n1, x1⟩ ⟨g2, natS n2, x2⟩ W) => h.2.2.facts.2.2.1
        have L5 := fun W (h : TB w ⟨g1, natS n1, x1⟩ ⟨g2, natS n2, x2⟩ W) => h.2.2.facts.2.2.2.1
        go_region_held3 (TB w ⟨g1, natS n1, x1⟩ ⟨g2, natS n2, x2⟩) (first | assumption | exact TB.step (by assumption) (by assumption) | exact TB.drew (by assumption) | exact TB.drawn (by assumption) _)
          (first
            | (go_at_call 36; with_reducible refine (SA.out _).mono ?_; rintro e w' ⟨rfl, hb7⟩)
            | (go_at_call 36; with_reducible refine (SB.out _).mono ?_; rintro e w' ⟨rfl, hb7⟩))
        rename_i hHeld
        clear T0 L0 L1 L2 L3 L4 L5
        obtain ⟨p0, p1, p2, p3, p4, p5, p6⟩ := hHeld.2.1.facts
        obtain ⟨q0, q1, q2, q3, q4, q5, q6⟩ := hHeld.2.2.facts
        go_wp2_with fail
        go_ret2
        exact ⟨rfl, hHeld.1⟩
      · have KG := Lib.hid (KM.out rfl)
        go_enter Tryz.func14, Tryz.ntmps14
        go_wp2_with fail
        refine (KA.out _ _ _ (by simp)).mono ?_
        rintro e w1 ⟨rfl, hb⟩
        replace T0 := (T0.more _).step hb
        clear hb
        obtain ⟨p0, p1, p2, p3, p4, p5, p6⟩ := T0.2.1.facts
        obtain ⟨q0, q1, q2, q3, q4, q5, q6⟩ := T0.2.2.facts
        go_wp2_with fail
        clear p0 p1 p2 p3 p4 p5 p6 q0 q1 q2 q3 q4 q5 q6
        have L0 := fun W (h : TB w ⟨g1, natS n1, x1⟩ ⟨g2, natS n2, x2⟩ W) => h.2.1.facts.2.1
        have L1 := fun W (h : TB w ⟨g1, natS n1, x1⟩ ⟨g2, natS n2, x2⟩ W) => h.2.1.facts.2.2.1
        have L2 := fun W (h : TB w ⟨g1, natS n1, x1⟩ ⟨g2, natS n2, x2⟩ W) => h.2.1.facts.2.2.2.1
        have L3 := fun W (h : TB w ⟨g1, natS n1, x1⟩ ⟨g2, natS n2, x2⟩ W) => h.2.2.facts.2.1
        have L4 := fun W (h : TB w ⟨g1, natS n1, x1⟩ ⟨g2, natS n2, x2⟩ W) => h.2.2.facts.2.2.1
        have L5 := fun W (h : TB w ⟨g1, natS n1, x1⟩ ⟨g2, natS n2, x2⟩ W) => h.2.2.facts.2.2.2.1
        go_region_held3 (TB w ⟨g1, natS n1, x1⟩ ⟨g2, natS n2, x2⟩) (first | assumption | exact TB.step (by assumption) (by assumption) | exact TB.drew (by assumption) | exact TB.drawn (by assumption) _)
          (first
            | (go_at_call 36; with_reducible refine (SA.out _).mono ?_; rintro e w' ⟨rfl, hb7⟩)
            | (go_at_call 36; with_reducible refine (SB.out _).mono ?_; rintro e w' ⟨rfl, hb7⟩))
        rename_i hHeld
        clear T0 L0 L1 L2 L3 L4 L5
        obtain ⟨p0, p1, p2, p3, p4, p5, p6⟩ := hHeld.2.1.facts
        obtain ⟨q0, q1, q2, q3, q4, q5, q6⟩ := hHeld.2.2.facts
        go_wp2_with fail
        refine (KG.out _).mono ?_
        rintro e w2 ⟨rfl, hb⟩
        go_wp2_with fail
        go_ret2
        refine ⟨?_, (hHeld.step hb).1⟩
        show Ending.returned (.tuple #[.int .i64 (wrap64 (s * m)), .int .i64 0]) = _
        rw [HSM.out]
    · subst hg
      have hl := ne_toList hn
      rcases hr with ⟨h1, rfl⟩ | ⟨h0, h1, rfl⟩ | ⟨rfl, rfl⟩
      · go_enter Tryz.func14, Tryz.ntmps14
        go_wp2_with fail
        refine (KA.out _ _ _ (by simp)).mono ?_
        rintro e w1 ⟨rfl, hb⟩
        replace T0 := (T0.more _).step hb
        clear hb
        obtain ⟨p0, p1, p2, p3, p4, p5, p6⟩ := T0.2.1.facts
        obtain ⟨q0, q1, q2, q3, q4, q5, q6⟩ := T0.2.2.facts
        go_wp2_with fail
        clear p0 p1 p2 p3 p4 p5 p6 q0 q1 q2 q3 q4 q5 q6
        have L0 := fun W (h : TB w ⟨g1, natS n1, x1⟩ ⟨g1, natS n2, x2⟩ W) => h.2.1.facts.2.1
        have L1 := fun W (h : TB w ⟨g1, natS n1, x1⟩ ⟨g1, natS n2, x2⟩ W) => h.2.1.facts.2.2.1
        have L2 := fun W (h : TB w ⟨g1, natS n1, x1⟩ ⟨g1, natS n2, x2⟩ W) => h.2.1.facts.2.2.2.1
        have L3 := fun W (h : TB w ⟨g1, natS n1, x1⟩ ⟨g1, natS n2, x2⟩ W) => h.2.2.facts.2.1
        have L4 := fun W (h : TB w ⟨g1, natS n1, x1⟩ ⟨g1, natS n2, x2⟩ W) => h.2.2.facts.2.2.1
        have L5 := fun W (h : TB w ⟨g1, natS n1, x1⟩ ⟨g1, natS n2, x2⟩ W) => h.2.2.facts.2.2.2.1
        go_region_held3 (TB w ⟨g1, natS n1, x1⟩ ⟨g1, natS n2, x2⟩) (first | assumption | exact TB.step (by assumption) (by assumption) | exact TB.drew (by assumption) | exact TB.drawn (by assumption) _)
          (first
            | (go_at_call 36; with_reducible refine (SA.out _).mono ?_; rintro e w' ⟨rfl, hb7⟩)
            | (go_at_call 36; with_reducible refine (SB.out _).mono ?_; rintro e w' ⟨rfl, hb7⟩))
        rename_i hHeld
        clear T0 L0 L1 L2 L3 L4 L5
        obtain ⟨p0, p1, p2, p3, p4, p5, p6⟩ := hHeld.2.1.facts
        obtain ⟨q0, q1, q2, q3, q4, q5, q6⟩ := hHeld.2.2.facts
        go_wp2_with fail
        go_ret2
        exact ⟨rfl, hHeld.1⟩
      · go_enter Tryz.func14, Tryz.ntmps14
        go_wp2_with fail
        refine (KA.out _ _ _ (by simp)).mono ?_
        rintro e w1 ⟨rfl, hb⟩
        replace T0 := (T0.more _).step hb
        clear hb
        obtain ⟨p0, p1, p2, p3, p4, p5, p6⟩ := T0.2.1.facts
        obtain ⟨q0, q1, q2, q3, q4, q5, q6⟩ := T0.2.2.facts
        go_wp2_with fail
        clear p0 p1 p2 p3 p4 p5 p6 q0 q1 q2 q3 q4 q5 q6
        have L0 := fun W (h : TB w ⟨g1, natS n1, x1⟩ ⟨g1, natS n2, x2⟩ W) => h.2.1.facts.2.1
        have L1 := fun W (h : TB w ⟨g1, natS n1, x1⟩ ⟨g1, natS n2, x2⟩ W) => h.2.1.facts.2.2.1
        have L2 := fun W (h : TB w ⟨g1, natS n1, x1⟩ ⟨g1, natS n2, x2⟩ W) => h.2.1.facts.2.2.2.1
        have L3 := fun W (h : TB w ⟨g1, natS n1, x1⟩ ⟨g1, natS n2, x2⟩ W) => h.2.2.facts.2.1
        have L4 := fun W (h : TB w ⟨g1, natS n1, x1⟩ ⟨g1, natS n2, x2⟩ W) => h.2.2.facts.2.2.1
        have L5 := fun W (h : TB w ⟨g1, natS n1, x1⟩ ⟨g1, natS n2, x2⟩ W) => h.2.2.facts.2.2.2.1
        go_region_held3 (TB w ⟨g1, natS n1, x1⟩ ⟨g1, natS n2, x2⟩) (first | assumption | exact TB.step (by assumption) (by assumption) | exact TB.drew (by assumption) | exact TB.drawn (by assumption) _)
          (first
            | (go_at_call 36; with_reducible refine (SA.out _).mono ?_; rintro e w' ⟨rfl, hb7⟩)
            | (go_at_call 36; with_reducible refine (SB.out _).mono ?_; rintro e w' ⟨rfl, hb7⟩))
        rename_i hHeld
        clear T0 L0 L1 L2 L3 L4 L5
        obtain ⟨p0, p1, p2, p3, p4, p5, p6⟩ := hHeld.2.1.facts
        obtain ⟨q0, q1, q2, q3, q4, q5, q6⟩ := hHeld.2.2.facts
        go_wp2_with fail
        go_ret2
        exact ⟨rfl, hHeld.1⟩
      · have KG := Lib.hid (KM.out rfl)
        go_enter Tryz.func14, Tryz.ntmps14
        go_wp2_with fail
        refine (KA.out _ _ _ (by simp)).mono ?_
        rintro e w1 ⟨rfl, hb⟩
        replace T0 := (T0.more _).step hb
        clear hb
        obtain ⟨p0, p1, p2, p3, p4, p5, p6⟩ := T0.2.1.facts
        obtain ⟨q0, q1, q2, q3, q4, q5, q6⟩ := T0.2.2.facts
        go_wp2_with fail
        clear p0 p1 p2 p3 p4 p5 p6 q0 q1 q2 q3 q4 q5 q6
        have L0 := fun W (h : TB w ⟨g1, natS n1, x1⟩ ⟨g1, natS n2, x2⟩ W) => h.2.1.facts.2.1
        have L1 := fun W (h : TB w ⟨g1, natS n1, x1⟩ ⟨g1, natS n2, x2⟩ W) => h.2.1.facts.2.2.1
        have L2 := fun W (h : TB w ⟨g1, natS n1, x1⟩ ⟨g1, natS n2, x2⟩ W) => h.2.1.facts.2.2.2.1
        have L3 := fun W (h : TB w ⟨g1, natS n1, x1⟩ ⟨g1, natS n2, x2⟩ W) => h.2.2.facts.2.1
        have L4 := fun W (h : TB w ⟨g1, natS n1, x1⟩ ⟨g1, natS n2, x2⟩ W) => h.2.2.facts.2.2.1
        have L5 := fun W (h : TB w ⟨g1, natS n1, x1⟩ ⟨g1, natS n2, x2⟩ W) => h.2.2.facts.2.2.2.1
        go_region_held3 (TB w ⟨g1, natS n1, x1⟩ ⟨g1, natS n2, x2⟩) (first | assumption | exact TB.step (by assumption) (by assumption) | exact TB.drew (by assumption) | exact TB.drawn (by assumption) _)
          (first
            | (go_at_call 36; with_reducible refine (SA.out _).mono ?_; rintro e w' ⟨rfl, hb7⟩)
            | (go_at_call 36; with_reducible refine (SB.out _).mono ?_; rintro e w' ⟨rfl, hb7⟩))
        rename_i hHeld
        clear T0 L0 L1 L2 L3 L4 L5
        obtain ⟨p0, p1, p2, p3, p4, p5, p6⟩ := hHeld.2.1.facts
        obtain ⟨q0, q1, q2, q3, q4, q5, q6⟩ := hHeld.2.2.facts
        go_wp2_with fail
        refine (KG.out _).mono ?_
        rintro e w2 ⟨rfl, hb⟩
        go_wp2_with fail
        go_ret2
        refine ⟨?_, (hHeld.step hb).1⟩
        show Ending.returned (.tuple #[.int .i64 (wrap64 (s * m)), .int .i64 0]) = _
        rw [HSM.out]
    · subst hg hn
      rcases hr with ⟨h1, rfl⟩ | ⟨h0, h1, rfl⟩ | ⟨rfl, rfl⟩
      · go_enter Tryz.func14, Tryz.ntmps14
        go_wp2_with fail
        refine (KA.out _ _ _ (by simp)).mono ?_
        rintro e w1 ⟨rfl, hb⟩
        replace T0 := (T0.more _).step hb
        clear hb
        obtain ⟨p0, p1, p2, p3, p4, p5, p6⟩ := T0.2.1.facts
        obtain ⟨q0, q1, q2, q3, q4, q5, q6⟩ := T0.2.2.facts
        go_wp2_with fail
        clear p0 p1 p2 p3 p4 p5 p6 q0 q1 q2 q3 q4 q5 q6
        have L0 := fun W (h : TB w ⟨g1, natS n1, x1⟩ ⟨g1, natS n1, x2⟩ W) => h.2.1.facts.2.1
        have L1 := fun W (h : TB w ⟨g1, natS n1, x1⟩ ⟨g1, natS n1, x2⟩ W) => h.2.1.facts.2.2.1
        have L2 := fun W (h : TB w ⟨g1, natS n1, x1⟩ ⟨g1, natS n1, x2⟩ W) => h.2.1.facts.2.2.2.1
        have L3 := fun W (h : TB w ⟨g1, natS n1, x1⟩ ⟨g1, natS n1, x2⟩ W) => h.2.2.facts.2.1
        have L4 := fun W (h : TB w ⟨g1, natS n1, x1⟩ ⟨g1, natS n1, x2⟩ W) => h.2.2.facts.2.2.1
        have L5 := fun W (h : TB w ⟨g1, natS n1, x1⟩ ⟨g1, natS n1, x2⟩ W) => h.2.2.facts.2.2.2.1
        go_region_held3 (TB w ⟨g1, natS n1, x1⟩ ⟨g1, natS n1, x2⟩) (first | assumption | exact TB.step (by assumption) (by assumption) | exact TB.drew (by assumption) | exact TB.drawn (by assumption) _)
          (first
            | (go_at_call 36; with_reducible refine (SA.out _).mono ?_; rintro e w' ⟨rfl, hb7⟩)
            | (go_at_call 36; with_reducible refine (SB.out _).mono ?_; rintro e w' ⟨rfl, hb7⟩))
        rename_i hHeld
        clear T0 L0 L1 L2 L3 L4 L5
        obtain ⟨p0, p1, p2, p3, p4, p5, p6⟩ := hHeld.2.1.facts
        obtain ⟨q0, q1, q2, q3, q4, q5, q6⟩ := hHeld.2.2.facts
        go_wp2_with fail
        go_ret2
        exact ⟨rfl, hHeld.1⟩
      · go_enter Tryz.func14, Tryz.ntmps14
        go_wp2_with fail
        refine (KA.out _ _ _ (by simp)).mono ?_
        rintro e w1 ⟨rfl, hb⟩
        replace T0 := (T0.more _).step hb
        clear hb
        obtain ⟨p0, p1, p2, p3, p4, p5, p6⟩ := T0.2.1.facts
        obtain ⟨q0, q1, q2, q3, q4, q5, q6⟩ := T0.2.2.facts
        go_wp2_with fail
        clear p0 p1 p2 p3 p4 p5 p6 q0 q1 q2 q3 q4 q5 q6
        have L0 := fun W (h : TB w ⟨g1, natS n1, x1⟩ ⟨g1, natS n1, x2⟩ W) => h.2.1.facts.2.1
        have L1 := fun W (h : TB w ⟨g1, natS n1, x1⟩ ⟨g1, natS n1, x2⟩ W) => h.2.1.facts.2.2.1
        have L2 := fun W (h : TB w ⟨g1, natS n1, x1⟩ ⟨g1, natS n1, x2⟩ W) => h.2.1.facts.2.2.2.1
        have L3 := fun W (h : TB w ⟨g1, natS n1, x1⟩ ⟨g1, natS n1, x2⟩ W) => h.2.2.facts.2.1
        have L4 := fun W (h : TB w ⟨g1, natS n1, x1⟩ ⟨g1, natS n1, x2⟩ W) => h.2.2.facts.2.2.1
        have L5 := fun W (h : TB w ⟨g1, natS n1, x1⟩ ⟨g1, natS n1, x2⟩ W) => h.2.2.facts.2.2.2.1
        go_region_held3 (TB w ⟨g1, natS n1, x1⟩ ⟨g1, natS n1, x2⟩) (first | assumption | exact TB.step (by assumption) (by assumption) | exact TB.drew (by assumption) | exact TB.drawn (by assumption) _)
          (first
            | (go_at_call 36; with_reducible refine (SA.out _).mono ?_; rintro e w' ⟨rfl, hb7⟩)
            | (go_at_call 36; with_reducible refine (SB.out _).mono ?_; rintro e w' ⟨rfl, hb7⟩))
        rename_i hHeld
        clear T0 L0 L1 L2 L3 L4 L5
        obtain ⟨p0, p1, p2, p3, p4, p5, p6⟩ := hHeld.2.1.facts
        obtain ⟨q0, q1, q2, q3, q4, q5, q6⟩ := hHeld.2.2.facts
        go_wp2_with fail
        go_ret2
        exact ⟨rfl, hHeld.1⟩
      · have KG := Lib.hid (KM.out rfl)
        go_enter Tryz.func14, Tryz.ntmps14
        go_wp2_with fail
        refine (KA.out _ _ _ (by simp)).mono ?_
        rintro e w1 ⟨rfl, hb⟩
        replace T0 := (T0.more _).step hb
        clear hb
        obtain ⟨p0, p1, p2, p3, p4, p5, p6⟩ := T0.2.1.facts
        obtain ⟨q0, q1, q2, q3, q4, q5, q6⟩ := T0.2.2.facts
        go_wp2_with fail
        clear p0 p1 p2 p3 p4 p5 p6 q0 q1 q2 q3 q4 q5 q6
        have L0 := fun W (h : TB w ⟨g1, natS n1, x1⟩ ⟨g1, natS n1, x2⟩ W) => h.2.1.facts.2.1
        have L1 := fun W (h : TB w ⟨g1, natS n1, x1⟩ ⟨g1, natS n1, x2⟩ W) => h.2.1.facts.2.2.1
        have L2 := fun W (h : TB w ⟨g1, natS n1, x1⟩ ⟨g1, natS n1, x2⟩ W) => h.2.1.facts.2.2.2.1
        have L3 := fun W (h : TB w ⟨g1, natS n1, x1⟩ ⟨g1, natS n1, x2⟩ W) => h.2.2.facts.2.1
        have L4 := fun W (h : TB w ⟨g1, natS n1, x1⟩ ⟨g1, natS n1, x2⟩ W) => h.2.2.facts.2.2.1
        have L5 := fun W (h : TB w ⟨g1, natS n1, x1⟩ ⟨g1, natS n1, x2⟩ W) => h.2.2.facts.2.2.2.1
        go_region_held3 (TB w ⟨g1, natS n1, x1⟩ ⟨g1, natS n1, x2⟩) (first | assumption | exact TB.step (by assumption) (by assumption) | exact TB.drew (by assumption) | exact TB.drawn (by assumption) _)
          (first
            | (go_at_call 36; with_reducible refine (SA.out _).mono ?_; rintro e w' ⟨rfl, hb7⟩)
            | (go_at_call 36; with_reducible refine (SB.out _).mono ?_; rintro e w' ⟨rfl, hb7⟩))
        rename_i hHeld
        clear T0 L0 L1 L2 L3 L4 L5
        obtain ⟨p0, p1, p2, p3, p4, p5, p6⟩ := hHeld.2.1.facts
        obtain ⟨q0, q1, q2, q3, q4, q5, q6⟩ := hHeld.2.2.facts
        go_wp2_with fail
        refine (KG.out _).mono ?_
        rintro e w2 ⟨rfl, hb⟩
        go_wp2_with fail
        go_ret2
        refine ⟨?_, (hHeld.step hb).1⟩
        show Ending.returned (.tuple #[.int .i64 (wrap64 (s * m)), .int .i64 0]) = _
        rw [HSM.out]
  by_cases h1 : s < t
  · rw [if_pos h1]; exact go _ (Or.inl ⟨h1, rfl⟩)
  · rw [if_neg h1]
    by_cases h2 : t < s
    · rw [if_pos h2]; exact go _ (Or.inr (Or.inl ⟨h1, h2, rfl⟩))
    · rw [if_neg h2]; exact go _ (Or.inr (Or.inr ⟨by omega, rfl⟩))
theorem DCmp_c (a b : Dy) (w : World) (ha : a.Ok) (hb : b.Ok) :
    Calls Tryz.prog 14 #[.agg #[.bool a.g, .string (natS a.n), .int .i64 a.x], .agg #[.bool b.g, .string (natS b.n), .int .i64 b.x]] w fun e w' => e = .returned (.tuple #[.int .i64 (cmpD a b), .int .i64 0]) ∧ Below w.heap.size w w' := by
  by_cases hab : a = b
  · subst hab; exact DCmp_same a w ha
  · have he : dE [a.t, b.t] = 0 := dE_ok fun t ht => by
      rcases List.mem_cons.1 ht with rfl | ht
      · exact Dy.ok_t ha
      · rw [List.mem_singleton.1 ht]; exact Dy.ok_t hb
    have KA := Lib.hid (fun W T A hA => Dall2 a.t b.t W T A hA (by have := Dy.small ha; show (natS a.n).size ≤ _; omega) (by have := Dy.small hb; show (natS b.n).size ≤ _; omega))
    rw [he] at KA
    have hsb := sgD_b a
    have hmb := magC_b a b
    have hdis : ¬ a.g = b.g ∨ (a.g = b.g ∧ a.n ≠ b.n) ∨ (a.g = b.g ∧ a.n = b.n ∧ ¬ a.x = b.x) := by
      by_cases h1 : a.g = b.g
      · by_cases h2 : a.n = b.n
        · refine Or.inr (Or.inr ⟨h1, h2, fun h3 => hab ?_⟩)
          obtain ⟨g, n, x⟩ := a
          obtain ⟨g', n', x'⟩ := b
          simp only at h1 h2 h3
          rw [h1, h2, h3]
        · exact Or.inr (Or.inl ⟨h1, h2⟩)
      · exact Or.inl h1
    have K := DCmp_walk a.g b.g a.n b.n a.x b.x (sgD a) (sgD b) (if sgD a = 0 then 0 else magC a b) w KA (Lib.hid fun w => DSign_c a ha w) (Lib.hid fun w => DSign_c b hb w)
      (Lib.hid fun h w => by
        by_cases h0 : sgD a = 0
        · exfalso
          apply hab
          rw [Dy.zero_of ha h0, Dy.zero_of hb (h ▸ h0)]
        · rw [if_neg h0]
          exact Dmag_c a b w (Dy.num_of ha h0) (Dy.num_of hb (h ▸ h0)))
      (sm_wrap hsb (by split <;> omega)) hdis
    have e : (if sgD a < sgD b then -1 else if sgD b < sgD a then 1 else sgD a * (if sgD a = 0 then 0 else magC a b)) = cmpD a b := by
      by_cases h1 : sgD a < sgD b
      · rw [if_pos h1, cmpD_lt h1]
      · rw [if_neg h1]
        by_cases h2 : sgD b < sgD a
        · rw [if_pos h2, cmpD_gt h2]
        · rw [if_neg h2]
          by_cases h3 : sgD a = 0
          · rw [if_pos h3, h3, Int.mul_zero, cmpD_zero (by omega) h3]
          · rw [if_neg h3, cmpD_eq (by omega) h3]
    rw [e] at K
    exact K
end Go.Proofs.YtamcnnocjelcjaaGreatDoor
namespace Go.Proofs.YtamcnnocjelcjaaGreatDoor
open Go Go.RowKit Nt
theorem rSignD3_c (d : Dy) (h : d.Ok) (w : World) : Calls Tryz.prog 93 #[.agg #[.bool d.g, .string (natS d.n), .int .i64 d.x]] w fun e w' => e = .returned (.int .i64 (sgD d)) ∧ Below w.heap.size w w' := by
  rcases h with rfl | h
  · rw [sgD_zero]
    show Calls _ _ #[.agg #[.bool false, .string (natS 0), .int .i64 0]] _ _
    rw [natS_zero]; exact rSign3_zero w
  · rw [sgD_num (odd_ne h.2.1)]
    exact rSign3_num d.g d.n d.x w (odd_ne h.2.1)
theorem rCmpD3_sgn (a b : Dy) (w : World) (ha : a.Ok) (hb : b.Ok) (r : Int) (hr : (sgD a < sgD b ∧ r = -1) ∨ (¬ sgD a < sgD b ∧ sgD b < sgD a ∧ r = 1) ∨ (sgD a = 0 ∧ sgD b = 0 ∧ r = 0)) :
    Calls Tryz.prog 56 #[.agg #[.bool a.g, .string (natS a.n), .int .i64 a.x], .agg #[.bool b.g, .string (natS b.n), .int .i64 b.x]] w fun e w' => e = .returned (.int .i64 r) ∧ Below w.heap.size w w' := by
  have T0 := TB.start w a.t b.t
  have SA := Lib.hid (fun w => rSignD3_c a ha w)
  have SB := Lib.hid (fun w => rSignD3_c b hb w)
  have hr2 : (((sgD a : Int) != sgD b) = true ∧ ((sgD a < sgD b ∧ r = -1) ∨ (¬ sgD a < sgD b ∧ sgD b < sgD a ∧ r = 1))) ∨ (sgD a = 0 ∧ sgD b = 0 ∧ r = 0) := by
    rcases hr with ⟨h1, h2⟩ | ⟨h1, h2, h3⟩ | h
    · exact Or.inl ⟨by rw [bne_iff_ne]; omega, Or.inl ⟨h1, h2⟩⟩
    · exact Or.inl ⟨by rw [bne_iff_ne]; omega, Or.inr ⟨h1, h2, h3⟩⟩
    · exact Or.inr h
  clear hr ha hb
  obtain ⟨g1, n1, x1⟩ := a
  obtain ⟨g2, n2, x2⟩ := b
  simp only [Dy.t] at T0 SA SB ⊢
  generalize sgD ⟨g1, n1, x1⟩ = s at *
  generalize sgD ⟨g2, n2, x2⟩ = t at *
  rcases hr2 with ⟨h0, ⟨h1, rfl⟩ | ⟨h1, h2, rfl⟩⟩ | ⟨rfl, rfl, rfl⟩
  all_goals
    go_enter Tryz.func56, Tryz.ntmps56
    go_wp2_with fail
    have L0 := fun W (h : TB w ⟨g1, natS n1, x1⟩ ⟨g2, natS n2, x2⟩ W) => h.2.1.facts.2.1
    have L1 := fun W (h : TB w ⟨g1, natS n1, x1⟩ ⟨g2, natS n2, x2⟩ W) => h.2.1.facts.2.2.1
    have L2 := fun W (h : TB w ⟨g1, natS n1, x1⟩ ⟨g2, natS n2, x2⟩ W) => h.2.1.facts.2.2.2.1
    have L3 := fun W (h : TB w ⟨g1, natS n1, x1⟩ ⟨g2, natS n2, x2⟩ W) => h.2.2.facts.2.1
    have L4 := fun W (h : TB w ⟨g1, natS n1, x1⟩ ⟨g2, natS n2, x2⟩ W) => h.2.2.facts.2.2.1
    have L5 := fun W (h : TB w ⟨g1, natS n1, x1⟩ ⟨g2, natS n2, x2⟩ W) => h.2.2.facts.2.2.2.1
    go_region_held3 (TB w ⟨g1, natS n1, x1⟩ ⟨g2, natS n2, x2⟩) (first | assumption | exact TB.step (by assumption) (by assumption) | exact TB.drew (by assumption) | exact TB.drawn (by assumption) _)
      (first
        | (go_at_call 93; with_reducible refine (SA.out _).mono ?_; rintro e w' ⟨rfl, hb7⟩)
        | (go_at_call 93; with_reducible refine (SB.out _).mono ?_; rintro e w' ⟨rfl, hb7⟩))
    rename_i hHeld
    clear T0 L0 L1 L2 L3 L4 L5
    go_wp2_with fail
    go_ret
    exact ⟨rfl, hHeld.1⟩
theorem neg_sgn {s : Int} (h : s = -1 ∨ s = 0 ∨ s = 1) : wrap64 (-s) = -s := by rcases h with rfl | rfl | rfl <;> exact IntWalk.wrap64_in _ (by decide)
set_option maxRecDepth 100000 in
set_option maxHeartbeats 2000000 in
theorem rCmpD3_num (a b : Dy) (w : World) (ha : a.Num) (hb : b.Num) (hs : sgD a = sgD b) :
    Calls Tryz.prog 56 #[.agg #[.bool a.g, .string (natS a.n), .int .i64 a.x], .agg #[.bool b.g, .string (natS b.n), .int .i64 b.x]] w fun e w' => e = .returned (.int .i64 (sgD a * magC a b)) ∧ Below w.heap.size w w' := by
  have hna := odd_ne ha.2.1
  have hnb := odd_ne hb.2.1
  have T0 := TB.start w a.t b.t
  have SA := Lib.hid (fun w => rSignD3_c a (Or.inr ha) w)
  have SB := Lib.hid (fun w => rSignD3_c b (Or.inr hb) w)
  rw [← hs] at SB
  have hs0 := sgD_ne hna
  have hs1 : ((sgD a : Int) == 0) = false := by rw [beq_eq_false_iff_ne]; exact hs0
  have KA := Lib.hid (fun w => rTop3_num a.g a.n a.x w ha.1 hna ha.2.2.1 ha.2.2.2)
  have KB := Lib.hid (fun w => rTop3_num b.g b.n b.x w hb.1 hnb hb.2.2.1 hb.2.2.2)
  rw [← topD_eq] at KA KB
  have HSB := Lib.hid (neg_sgn (sgD_b a))
  have HSM := Lib.hid (sm_wrap (sgD_b a) (magC_b a b))
  have hfa : nd 256 a.n ≤ 16384 := ha.1
  have hfb : nd 256 b.n ≤ 16384 := hb.1
  have KO := Lib.hid (fun w => rOf3_c a.n w (by omega))
  have KP := Lib.hid (fun w => rOf3_c b.n w (by omega))
  have hxa := ha.2.2
  have hxb := hb.2.2
  have hcase : (topD a < topD b ∧ Hid (magC a b = -1)) ∨ (¬ topD a < topD b ∧ topD b < topD a ∧ Hid (magC a b = 1)) ∨
      (topD a = topD b ∧ ∃ j : Nat, j ≤ 2097152 ∧ b.x < a.x ∧ a.x - b.x = (j : Int) ∧ Hid (fits (a.n * 2 ^ j) ∧ magC a b = cmpN (a.n * 2 ^ j) b.n)) ∨
      (topD a = topD b ∧ ∃ j : Nat, j ≤ 2097152 ∧ ¬ b.x < a.x ∧ b.x - a.x = (j : Int) ∧ Hid (fits (b.n * 2 ^ j) ∧ magC a b = cmpN a.n (b.n * 2 ^ j))) := by
    rcases Int.lt_trichotomy (topD a) (topD b) with h | h | h
    · exact Or.inl ⟨h, Lib.hid (magC_lt h)⟩
    · by_cases hx : b.x < a.x
      · obtain ⟨h1, h2, h3⟩ := up_fits ha hb h hx
        refine Or.inr (Or.inr (Or.inl ⟨h, (a.x - b.x).toNat, by omega, hx, by omega, Lib.hid ⟨h1, ?_⟩⟩))
        rw [magC_eq h, h2, h3]
      · refine Or.inr (Or.inr (Or.inr ⟨h, (b.x - a.x).toNat, by omega, hx, by omega, Lib.hid ?_⟩))
        by_cases hx2 : a.x < b.x
        · obtain ⟨h1, h2, h3⟩ := up_fits hb ha h.symm hx2
          exact ⟨h1, by rw [magC_eq h, h2, h3]⟩
        · have e1 : (b.x - a.x).toNat = 0 := by omega
          have e2 : (a.x - b.x).toNat = 0 := by omega
          rw [e1, Nat.pow_zero, Nat.mul_one, magC_eq h, upN_eq, upN_eq, e1, e2, Nat.pow_zero, Nat.mul_one, Nat.mul_one]
          exact ⟨hb.1, rfl⟩
    · exact Or.inr (Or.inl ⟨by omega, h, Lib.hid (magC_gt h)⟩)
  clear ha hb hs
  obtain ⟨g1, n1, x1⟩ := a
  obtain ⟨g2, n2, x2⟩ := b
  simp only [Dy.t] at T0 SA SB KA KB KO KP hcase hxa hxb hfa hfb HSM HSB ⊢
  generalize sgD ⟨g1, n1, x1⟩ = s at *
  generalize topD ⟨g1, n1, x1⟩ = ta at *
  generalize topD ⟨g2, n2, x2⟩ = tb at *
  generalize magC ⟨g1, n1, x1⟩ ⟨g2, n2, x2⟩ = mg at *
  clear hna hnb
  rcases hcase with ⟨h1, hm⟩ | ⟨h0, h1, hm⟩ | ⟨h1, j, hj, hx, hjx, hm⟩ | ⟨h1, j, hj, hx, hjx, hm⟩
  · have h2 : ((ta : Int) != tb) = true := by rw [bne_iff_ne]; omega
    go_enter Tryz.func56, Tryz.ntmps56
    go_wp2_with fail
    have L0 := fun W (h : TB w ⟨g1, natS n1, x1⟩ ⟨g2, natS n2, x2⟩ W) => h.2.1.facts.2.1
    have L1 := fun W (h : TB w ⟨g1, natS n1, x1⟩ ⟨g2, natS n2, x2⟩ W) => h.2.1.facts.2.2.1
    have L2 := fun W (h : TB w ⟨g1, natS n1, x1⟩ ⟨g2, natS n2, x2⟩ W) => h.2.1.facts.2.2.2.1
    have L3 := fun W (h : TB w ⟨g1, natS n1, x1⟩ ⟨g2, natS n2, x2⟩ W) => h.2.2.facts.2.1
    have L4 := fun W (h : TB w ⟨g1, natS n1, x1⟩ ⟨g2, natS n2, x2⟩ W) => h.2.2.facts.2.2.1
    have L5 := fun W (h : TB w ⟨g1, natS n1, x1⟩ ⟨g2, natS n2, x2⟩ W) => h.2.2.facts.2.2.2.1
    go_region_held3 (TB w ⟨g1, natS n1, x1⟩ ⟨g2, natS n2, x2⟩) (first | assumption | exact TB.step (by assumption) (by assumption) | exact TB.drew (by assumption) | exact TB.drawn (by assumption) _)
      (first
        | (go_at_call 93; with_reducible refine (SA.out _).mono ?_; rintro e w' ⟨rfl, hb7⟩)
        | (go_at_call 93; with_reducible refine (SB.out _).mono ?_; rintro e w' ⟨rfl, hb7⟩))
    rename_i hHeld
    clear T0 L0 L1 L2 L3 L4 L5
    have T0 := hHeld
    clear hHeld
    obtain ⟨p0, p1, p2, p3, p4, p5, p6⟩ := T0.2.1.facts
    obtain ⟨q0, q1, q2, q3, q4, q5, q6⟩ := T0.2.2.facts
    go_wp2_with fail
    refine (KA.out _).mono ?_
    rintro e w1 ⟨rfl, hb⟩
    replace T0 := T0.step hb
    clear hb p0 p1 p2 p3 p4 p5 p6 q0 q1 q2 q3 q4 q5 q6
    obtain ⟨p0, p1, p2, p3, p4, p5, p6⟩ := T0.2.1.facts
    obtain ⟨q0, q1, q2, q3, q4, q5, q6⟩ := T0.2.2.facts
    go_wp2_with fail
    refine (KB.out _).mono ?_
    rintro e w2 ⟨rfl, hb⟩
    replace T0 := T0.step hb
    clear hb p0 p1 p2 p3 p4 p5 p6 q0 q1 q2 q3 q4 q5 q6
    obtain ⟨p0, p1, p2, p3, p4, p5, p6⟩ := T0.2.1.facts
    obtain ⟨q0, q1, q2, q3, q4, q5, q6⟩ := T0.2.2.facts
    go_wp2_with fail
    go_ret
    refine ⟨?_, T0.1⟩
    show Ending.returned (.int .i64 (wrap64 (-s))) = _
    rw [HSB.out, hm.out, Int.mul_neg, Int.mul_one]
  · have h2 : ((ta : Int) != tb) = true := by rw [bne_iff_ne]; omega
    go_enter Tryz.func56, Tryz.ntmps56
    go_wp2_with fail
    have L0 := fun W (h : TB w ⟨g1, natS n1, x1⟩ ⟨g2, natS n2, x2⟩ W) => h.2.1.facts.2.1
    have L1 := fun W (h : TB w ⟨g1, natS n1, x1⟩ ⟨g2, natS n2, x2⟩ W) => h.2.1.facts.2.2.1
    have L2 := fun W (h : TB w ⟨g1, natS n1, x1⟩ ⟨g2, natS n2, x2⟩ W) => h.2.1.facts.2.2.2.1
    have L3 := fun W (h : TB w ⟨g1, natS n1, x1⟩ ⟨g2, natS n2, x2⟩ W) => h.2.2.facts.2.1
    have L4 := fun W (h : TB w ⟨g1, natS n1, x1⟩ ⟨g2, natS n2, x2⟩ W) => h.2.2.facts.2.2.1
    have L5 := fun W (h : TB w ⟨g1, natS n1, x1⟩ ⟨g2, natS n2, x2⟩ W) => h.2.2.facts.2.2.2.1
    go_region_held3 (TB w ⟨g1, natS n1, x1⟩ ⟨g2, natS n2, x2⟩) (first | assumption | exact TB.step (by assumption) (by assumption) | exact TB.drew (by assumption) | exact TB.drawn (by assumption) _)
      (first
        | (go_at_call 93; with_reducible refine (SA.out _).mono ?_; rintro e w' ⟨rfl, hb7⟩)
        | (go_at_call 93; with_reducible refine (SB.out _).mono ?_; rintro e w' ⟨rfl, hb7⟩))
    rename_i hHeld
    clear T0 L0 L1 L2 L3 L4 L5
    have T0 := hHeld
    clear hHeld
    obtain ⟨p0, p1, p2, p3, p4, p5, p6⟩ := T0.2.1.facts
    obtain ⟨q0, q1, q2, q3, q4, q5, q6⟩ := T0.2.2.facts
    go_wp2_with fail
    refine (KA.out _).mono ?_
    rintro e w1 ⟨rfl, hb⟩
    replace T0 := T0.step hb
    clear hb p0 p1 p2 p3 p4 p5 p6 q0 q1 q2 q3 q4 q5 q6
    obtain ⟨p0, p1, p2, p3, p4, p5, p6⟩ := T0.2.1.facts
    obtain ⟨q0, q1, q2, q3, q4, q5, q6⟩ := T0.2.2.facts
    go_wp2_with fail
    refine (KB.out _).mono ?_
    rintro e w2 ⟨rfl, hb⟩
    replace T0 := T0.step hb
    clear hb p0 p1 p2 p3 p4 p5 p6 q0 q1 q2 q3 q4 q5 q6
    obtain ⟨p0, p1, p2, p3, p4, p5, p6⟩ := T0.2.1.facts
    obtain ⟨q0, q1, q2, q3, q4, q5, q6⟩ := T0.2.2.facts
    go_wp2_with fail
    go_ret
    exact ⟨by rw [hm.out, Int.mul_one]; rfl, T0.1⟩
  · subst h1
    go_enter Tryz.func56, Tryz.ntmps56
    go_wp2_with fail
    have L0 := fun W (h : TB w ⟨g1, natS n1, x1⟩ ⟨g2, natS n2, x2⟩ W) => h.2.1.facts.2.1
    have L1 := fun W (h : TB w ⟨g1, natS n1, x1⟩ ⟨g2, natS n2, x2⟩ W) => h.2.1.facts.2.2.1
    have L2 := fun W (h : TB w ⟨g1, natS n1, x1⟩ ⟨g2, natS n2, x2⟩ W) => h.2.1.facts.2.2.2.1
    have L3 := fun W (h : TB w ⟨g1, natS n1, x1⟩ ⟨g2, natS n2, x2⟩ W) => h.2.2.facts.2.1
    have L4 := fun W (h : TB w ⟨g1, natS n1, x1⟩ ⟨g2, natS n2, x2⟩ W) => h.2.2.facts.2.2.1
    have L5 := fun W (h : TB w ⟨g1, natS n1, x1⟩ ⟨g2, natS n2, x2⟩ W) => h.2.2.facts.2.2.2.1
    go_region_held3 (TB w ⟨g1, natS n1, x1⟩ ⟨g2, natS n2, x2⟩) (first | assumption | exact TB.step (by assumption) (by assumption) | exact TB.drew (by assumption) | exact TB.drawn (by assumption) _)
      (first
        | (go_at_call 93; with_reducible refine (SA.out _).mono ?_; rintro e w' ⟨rfl, hb7⟩)
        | (go_at_call 93; with_reducible refine (SB.out _).mono ?_; rintro e w' ⟨rfl, hb7⟩))
    rename_i hHeld
    clear T0 L0 L1 L2 L3 L4 L5
    have T0 := hHeld
    clear hHeld
    obtain ⟨p0, p1, p2, p3, p4, p5, p6⟩ := T0.2.1.facts
    obtain ⟨q0, q1, q2, q3, q4, q5, q6⟩ := T0.2.2.facts
    go_wp2_with fail
    refine (KA.out _).mono ?_
    rintro e w1 ⟨rfl, hb⟩
    replace T0 := T0.step hb
    clear hb p0 p1 p2 p3 p4 p5 p6 q0 q1 q2 q3 q4 q5 q6
    obtain ⟨p0, p1, p2, p3, p4, p5, p6⟩ := T0.2.1.facts
    obtain ⟨q0, q1, q2, q3, q4, q5, q6⟩ := T0.2.2.facts
    go_wp2_with fail
    refine (KB.out _).mono ?_
    rintro e w2 ⟨rfl, hb⟩
    replace T0 := T0.step hb
    clear hb p0 p1 p2 p3 p4 p5 p6 q0 q1 q2 q3 q4 q5 q6
    obtain ⟨p0, p1, p2, p3, p4, p5, p6⟩ := T0.2.1.facts
    obtain ⟨q0, q1, q2, q3, q4, q5, q6⟩ := T0.2.2.facts
    go_wp2_with fail
    clear p0 p1 p2 p3 p4 p5 p6 q0 q1 q2 q3 q4 q5 q6
    have L0 := fun W (h : TB w ⟨g1, natS n1, x1⟩ ⟨g2, natS n2, x2⟩ W) => h.2.1.facts.2.1
    have L1 := fun W (h : TB w ⟨g1, natS n1, x1⟩ ⟨g2, natS n2, x2⟩ W) => h.2.1.facts.2.2.1
    have L2 := fun W (h : TB w ⟨g1, natS n1, x1⟩ ⟨g2, natS n2, x2⟩ W) => h.2.1.facts.2.2.2.1
    have L3 := fun W (h : TB w ⟨g1, natS n1, x1⟩ ⟨g2, natS n2, x2⟩ W) => h.2.2.facts.2.1
    have L4 := fun W (h : TB w ⟨g1, natS n1, x1⟩ ⟨g2, natS n2, x2⟩ W) => h.2.2.facts.2.2.1
    have L5 := fun W (h : TB w ⟨g1, natS n1, x1⟩ ⟨g2, natS n2, x2⟩ W) => h.2.2.facts.2.2.2.1
    go_region_held3 (TB w ⟨g1, natS n1, x1⟩ ⟨g2, natS n2, x2⟩) (first | assumption | exact TB.step (by assumption) (by assumption) | exact TB.drew (by assumption) | exact TB.drawn (by assumption) _)
      (first
        | (go_at_call 87; (with_reducible refine (KO.out _).mono ?_); rintro e wa ⟨v1, rfl, hown1, hb7⟩)
        | (go_at_call 87; (with_reducible refine (KP.out _).mono ?_); rintro e wb ⟨v2, rfl, hown2, hb8⟩))
    rename_i hHeld
    clear T0 L0 L1 L2 L3 L4 L5
    have T0 := hHeld
    clear hHeld
    have hown1 := hown1.whole hb8
    clear hb7 hb8
    obtain ⟨A1, c1, rfl, hc1⟩ := hown1.len
    obtain ⟨A2, c2, rfl, hc2⟩ := hown2.len
    rw [dl_length] at hown1 hown2 ⊢
    rw [dl_length]
    have KS := Lib.hid (rShifted3_c n1 j _ A1 c1 wb (by omega) (by omega) hown1)
    have HO := Lib.hid hown2
    clear hown1 hown2 hc1 hc2
    obtain ⟨p0, p1, p2, p3, p4, p5, p6⟩ := T0.2.1.facts
    obtain ⟨q0, q1, q2, q3, q4, q5, q6⟩ := T0.2.2.facts
    go_wp2_with fail
    refine KS.out.mono ?_
    rintro e w5 ⟨A3, c3, rfl, hown3, hb⟩
    replace T0 := T0.step hb
    have HO2 := Lib.hid (HO.out.whole hb)
    clear hb
    have hfz : nd 256 (n1 * 2 ^ j) ≤ 16384 := hm.out.1
    have KC := Lib.hid (rCmp3_c (n1 * 2 ^ j) n2 _ _ A3 A2 c3 c2 w5 (by omega) (by omega) hown3 HO2.out)
    rw [← hm.out.2] at KC
    clear hfz hown3
    generalize n1 * 2 ^ j = z at *
    go_wp2_with fail
    refine KC.out.mono ?_
    rintro e w6 ⟨rfl, nn, rfl⟩
    go_wp2_with fail
    go_ret
    refine ⟨?_, (T0.drawn nn).1⟩
    show Ending.returned (.int .i64 (wrap64 (s * mg))) = _
    rw [HSM.out]
  · subst h1
    go_enter Tryz.func56, Tryz.ntmps56
    go_wp2_with fail
    have L0 := fun W (h : TB w ⟨g1, natS n1, x1⟩ ⟨g2, natS n2, x2⟩ W) => h.2.1.facts.2.1
    have L1 := fun W (h : TB w ⟨g1, natS n1, x1⟩ ⟨g2, natS n2, x2⟩ W) => h.2.1.facts.2.2.1
    have L2 := fun W (h : TB w ⟨g1, natS n1, x1⟩ ⟨g2, natS n2, x2⟩ W) => h.2.1.facts.2.2.2.1
    have L3 := fun W (h : TB w ⟨g1, natS n1, x1⟩ ⟨g2, natS n2, x2⟩ W) => h.2.2.facts.2.1
    have L4 := fun W (h : TB w ⟨g1, natS n1, x1⟩ ⟨g2, natS n2, x2⟩ W) => h.2.2.facts.2.2.1
    have L5 := fun W (h : TB w ⟨g1, natS n1, x1⟩ ⟨g2, natS n2, x2⟩ W) => h.2.2.facts.2.2.2.1
    go_region_held3 (TB w ⟨g1, natS n1, x1⟩ ⟨g2, natS n2, x2⟩) (first | assumption | exact TB.step (by assumption) (by assumption) | exact TB.drew (by assumption) | exact TB.drawn (by assumption) _)
      (first
        | (go_at_call 93; with_reducible refine (SA.out _).mono ?_; rintro e w' ⟨rfl, hb7⟩)
        | (go_at_call 93; with_reducible refine (SB.out _).mono ?_; rintro e w' ⟨rfl, hb7⟩))
    rename_i hHeld
    clear T0 L0 L1 L2 L3 L4 L5
    have T0 := hHeld
    clear hHeld
    obtain ⟨p0, p1, p2, p3, p4, p5, p6⟩ := T0.2.1.facts
    obtain ⟨q0, q1, q2, q3, q4, q5, q6⟩ := T0.2.2.facts
    go_wp2_with fail
    refine (KA.out _).mono ?_
    rintro e w1 ⟨rfl, hb⟩
    replace T0 := T0.step hb
    clear hb p0 p1 p2 p3 p4 p5 p6 q0 q1 q2 q3 q4 q5 q6
    obtain ⟨p0, p1, p2, p3, p4, p5, p6⟩ := T0.2.1.facts
    obtain ⟨q0, q1, q2, q3, q4, q5, q6⟩ := T0.2.2.facts
    go_wp2_with fail
    refine (KB.out _).mono ?_
    rintro e w2 ⟨rfl, hb⟩
    replace T0 := T0.step hb
    clear hb p0 p1 p2 p3 p4 p5 p6 q0 q1 q2 q3 q4 q5 q6
    obtain ⟨p0, p1, p2, p3, p4, p5, p6⟩ := T0.2.1.facts
    obtain ⟨q0, q1, q2, q3, q4, q5, q6⟩ := T0.2.2.facts
    go_wp2_with fail
    clear p0 p1 p2 p3 p4 p5 p6 q0 q1 q2 q3 q4 q5 q6
    have L0 := fun W (h : TB w ⟨g1, natS n1, x1⟩ ⟨g2, natS n2, x2⟩ W) => h.2.1.facts.2.1
    have L1 := fun W (h : TB w ⟨g1, natS n1, x1⟩ ⟨g2, natS n2, x2⟩ W) => h.2.1.facts.2.2.1
    have L2 := fun W (h : TB w ⟨g1, natS n1, x1⟩ ⟨g2, natS n2, x2⟩ W) => h.2.1.facts.2.2.2.1
    have L3 := fun W (h : TB w ⟨g1, natS n1, x1⟩ ⟨g2, natS n2, x2⟩ W) => h.2.2.facts.2.1
    have L4 := fun W (h : TB w ⟨g1, natS n1, x1⟩ ⟨g2, natS n2, x2⟩ W) => h.2.2.facts.2.2.1
    have L5 := fun W (h : TB w ⟨g1, natS n1, x1⟩ ⟨g2, natS n2, x2⟩ W) => h.2.2.facts.2.2.2.1
    go_region_held3 (TB w ⟨g1, natS n1, x1⟩ ⟨g2, natS n2, x2⟩) (first | assumption | exact TB.step (by assumption) (by assumption) | exact TB.drew (by assumption) | exact TB.drawn (by assumption) _)
      (first
        | (go_at_call 87; (with_reducible refine (KO.out _).mono ?_); rintro e wa ⟨v1, rfl, hown1, hb7⟩)
        | (go_at_call 87; (with_reducible refine (KP.out _).mono ?_); rintro e wb ⟨v2, rfl, hown2, hb8⟩))
    rename_i hHeld
    clear T0 L0 L1 L2 L3 L4 L5
    have T0 := hHeld
    clear hHeld
    have hown1 := hown1.whole hb8
    clear hb7 hb8
    obtain ⟨A1, c1, rfl, hc1⟩ := hown1.len
    obtain ⟨A2, c2, rfl, hc2⟩ := hown2.len
    rw [dl_length] at hown1 hown2 ⊢
    rw [dl_length]
    have KS := Lib.hid (rShifted3_c n2 j _ A2 c2 wb (by omega) (by omega) hown2)
    have HO := Lib.hid hown1
    clear hown1 hown2 hc1 hc2
    obtain ⟨p0, p1, p2, p3, p4, p5, p6⟩ := T0.2.1.facts
    obtain ⟨q0, q1, q2, q3, q4, q5, q6⟩ := T0.2.2.facts
    go_wp2_with fail
    refine KS.out.mono ?_
    rintro e w5 ⟨A3, c3, rfl, hown3, hb⟩
    replace T0 := T0.step hb
    have HO2 := Lib.hid (HO.out.whole hb)
    clear hb
    have hfz : nd 256 (n2 * 2 ^ j) ≤ 16384 := hm.out.1
    have KC := Lib.hid (rCmp3_c n1 (n2 * 2 ^ j) _ _ A1 A3 c1 c3 w5 (by omega) (by omega) HO2.out hown3)
    rw [← hm.out.2] at KC
    clear hfz hown3
    generalize n2 * 2 ^ j = z at *
    go_wp2_with fail
    refine KC.out.mono ?_
    rintro e w6 ⟨rfl, nn, rfl⟩
    go_wp2_with fail
    go_ret
    refine ⟨?_, (T0.drawn nn).1⟩
    show Ending.returned (.int .i64 (wrap64 (s * mg))) = _
    rw [HSM.out]
theorem rCmpD3_c (a b : Dy) (w : World) (ha : a.Ok) (hb : b.Ok) :
    Calls Tryz.prog 56 #[.agg #[.bool a.g, .string (natS a.n), .int .i64 a.x], .agg #[.bool b.g, .string (natS b.n), .int .i64 b.x]] w fun e w' => e = .returned (.int .i64 (cmpD a b)) ∧ Below w.heap.size w w' := by
  rcases Int.lt_trichotomy (sgD a) (sgD b) with h | h | h
  · rw [cmpD_lt h]; exact rCmpD3_sgn a b w ha hb _ (Or.inl ⟨h, rfl⟩)
  · by_cases h0 : sgD a = 0
    · rw [cmpD_zero h h0]; exact rCmpD3_sgn a b w ha hb _ (Or.inr (Or.inr ⟨h0, h ▸ h0, rfl⟩))
    · rw [cmpD_eq h h0]; exact rCmpD3_num a b w (Dy.num_of ha h0) (Dy.num_of hb (h ▸ h0)) h
  · rw [cmpD_gt h]; exact rCmpD3_sgn a b w ha hb _ (Or.inr (Or.inl ⟨by omega, h, rfl⟩))
end Go.Proofs.YtamcnnocjelcjaaGreatDoor
namespace Go.Proofs.YtamcnnocjelcjaaGreatDoor
open Go Go.RowKit Nt
def OB (w : World) (a : Dt) (W : World) : Prop := Below w.heap.size w W ∧ Box3 W w.heap.size (.bool a.g) (.string a.s) (.int .i64 a.x)
theorem OB.start (w : World) (a : Dt) : OB w a (w.alloc (.cells #[.bool a.g, .string a.s, .int .i64 a.x] 24)) := ⟨(Below.refl _ _).alloc (Nat.le_refl _) _, Box3.new w _ _ _⟩
theorem OB.step {w : World} {a : Dt} {W W' : World} (h : OB w a W) (hb : Below W.heap.size W W') : OB w a W' := ⟨below_then h.1 hb, h.2.step hb⟩
theorem OB.more {w : World} {a : Dt} {W : World} (h : OB w a W) (o : Obj) : OB w a (W.alloc o) := h.step ((Below.refl _ _).alloc (Nat.le_refl _) _)
end Go.Proofs.YtamcnnocjelcjaaGreatDoor
namespace Go.Proofs.YtamcnnocjelcjaaGreatDoor
open Go Go.RowKit Nt
theorem rMayT_no (t : Dt) (w : World) (hs : t.s.size ≤ 9223372036854775807) (h : ¬ t.Ok) : Calls Tryz.prog 28 #[.agg #[.bool t.g, .string t.s, .int .i64 t.x]] w fun e w' => e = .returned (.bool false) ∧ Below w.heap.size w w' := rMay3_bad t.g t.s t.x w hs h
theorem rMayT_ok (d : Dy) (w : World) (h : d.Ok) : Calls Tryz.prog 28 #[.agg #[.bool d.g, .string (natS d.n), .int .i64 d.x]] w fun e w' => e = .returned (.bool true) ∧ Below w.heap.size w w' := by
  rcases h with rfl | h
  · show Calls _ _ #[.agg #[.bool false, .string (natS 0), .int .i64 0]] _ _
    rw [natS_zero]; exact rMay3_zero w
  · exact rMay3_num d.g d.n d.x w h.1 h.2.1 h.2.2.1 h.2.2.2
theorem Dt.dy {t : Dt} (h : t.Ok) : ∃ d : Dy, d.Ok ∧ t = d.t := by
  obtain ⟨d, h1, h2, h3, h4⟩ := DOk_dy h
  exact ⟨d, h1, by obtain ⟨g, s, x⟩ := t; simp only at h2 h3 h4; rw [h2, h3, h4]; rfl⟩
end Go.Proofs.YtamcnnocjelcjaaGreatDoor
namespace Go.Proofs.YtamcnnocjelcjaaGreatDoor
open Go Go.RowKit Nt
theorem low_word {n i : Nat} (hz : ∀ j, j < i → dgt W n j = 0) (hd : dgt W n i ≠ 0) : lowN n = 64 * i + Lib.ctz 64 (dgt W n i) := by
  have h0 : n % W ^ i = 0 := by
    have := mod_eq_of_digits (b := W) n 0 i (fun j hj => by rw [hz j hj, dgt_def, Nat.zero_div, Nat.zero_mod])
    rwa [Nat.zero_mod] at this
  have hdl : dgt W n i < 18446744073709551616 := wd_lt n i
  obtain ⟨t1, t2, t3⟩ := Bt.tz_spec (Nat.pos_of_ne_zero hd) hdl
  have e : Lib.ctz 64 (dgt W n i) = Bt.tz (dgt W n i) := rfl
  rw [e]
  have hm : n = W ^ i * (n / W ^ i) := by have := Nat.div_add_mod n (W ^ i); rw [h0] at this; omega
  have hd2 : n / W ^ i = dgt W n i + W * (n / W ^ i / W) := by
    rw [dgt_def]; have := Nat.mod_add_div (n / W ^ i) W; omega
  generalize dgt W n i = d at *
  generalize n / W ^ i / W = q at *
  generalize hmm : n / W ^ i = m at *
  clear hz h0 e hd hdl hmm
  have hp : W = 2 ^ Bt.tz d * 2 ^ (64 - Bt.tz d) := by rw [← Nat.pow_add, show Bt.tz d + (64 - Bt.tz d) = 64 by omega]; exact W_two
  refine (od_unique (o := Bt.od d + 2 ^ (64 - Bt.tz d) * q) ?_ ?_).1
  · rw [show 64 - Bt.tz d = (64 - Bt.tz d - 1) + 1 by omega, Nat.pow_succ]
    have : 2 ^ (64 - Bt.tz d - 1) * 2 * q = 2 * (2 ^ (64 - Bt.tz d - 1) * q) := by rw [Nat.mul_comm (2 ^ (64 - Bt.tz d - 1)) 2, Nat.mul_assoc]
    omega
  · rw [hm, hd2, Nat.pow_add, Nat.pow_mul, ← W_two, Nat.add_mul, ← Nat.mul_assoc, Nat.mul_comm (Bt.od d), Nat.mul_assoc (W ^ i), t1]
    rw [Nat.mul_add]
    congr 1
    rw [hp]
    simp only [Nat.mul_assoc, Nat.mul_comm, Nat.mul_left_comm]
set_option maxRecDepth 100000 in
set_option maxHeartbeats 1000000 in
theorem LLow_c (A : Option Addr) (c n B : Nat) (w : World) (hL : nd W n ≤ 1000000000) (hr : Row w B A n (nd W n)) (hT : Bt.Tabs w) :
    Calls Tryz.prog 106 #[.slice A (nd W n) c] w fun e w' => e = .returned (.int .i64 (lowN n : Nat)) ∧ w = w' := by
  obtain ⟨L, hLe⟩ : ∃ L, L = nd W n := ⟨_, rfl⟩
  have HT := Lib.hid hT.1
  have hn : n < W ^ nd W n := lt_nd W2
  rw [← hLe] at hL hr hn ⊢
  have HR := Lib.hid hr
  have HN := Lib.hid hn
  clear hr hLe hT hn
  go_enter Tryz.func106, Tryz.ntmps106
  go_wp2_with fail
  go_loop [7] (fun i => ∃ k : Nat, k ≤ L ∧ i = .int .i64 k ∧ Hid (∀ j, j < k → dgt W n j = 0)) (fun i => L - (intOf i).toNat)
  case atStart => exact ⟨0, Nat.zero_le _, rfl, Lib.hid (fun j h => by omega)⟩
  case round =>
    obtain ⟨k, hk, rfl, hz⟩ := hrel
    by_cases hlt : k < L
    · obtain ⟨g, rfl, hg, hc⟩ := HR.out.at_ hlt
      have hdl := wd_lt n k
      by_cases hd : dgt W n k = 0
      · rw [hd] at hc
        have HZ := Lib.hid (show ∀ j, j < k + 1 → dgt W n j = 0 from fun j hj => by
          rcases Nat.lt_or_ge j k with h | h
          · exact hz.out j h
          · obtain rfl : j = k := by omega
            exact hd)
        clear hd hdl
        go_wp2_with fail
        go_round
        case rel => exact ⟨k + 1, by omega, by go_num, HZ⟩
        case measure => simp [intOf]; omega
      · have hne : (((dgt W n k : Nat) : Int) != 0) = true := by rw [bne_iff_ne]; omega
        have HE := Lib.hid (low_word hz.out hd)
        have KT := Lib.hid (fun w hT => Tryz.bits_TrailingZeros64 (dgt W n k) hdl w hT)
        have hct : Lib.ctz 64 (dgt W n k) < 64 := (Bt.tz_spec (Nat.pos_of_ne_zero hd) hdl).2.2
        generalize dgt W n k = d at *
        generalize Lib.ctz 64 d = t at *
        clear hd hdl
        go_wp2_with fail
        refine (KT.out _ (fun _ => HT.out)).mono ?_
        rintro e w' ⟨rfl, rfl⟩
        go_wp2_with fail
        go_ret
        exact ⟨by rw [HE.out, Int.natCast_add, Int.natCast_mul]; rfl, rfl⟩
    · obtain rfl : k = L := by omega
      have h0 : lowN n = 0 := by
        have : n = 0 := eq_of_digits (b := W) (L := k) HN.out (Nat.pow_pos W0) (fun i hi => by rw [hz.out i hi, dgt_def, Nat.zero_div, Nat.zero_mod])
        rw [this, lowN_zero]
      have HZ := Lib.hid h0
      clear h0
      go_wp2_with fail
      go_ret
      exact ⟨by rw [HZ.out]; rfl, rfl⟩
end Go.Proofs.YtamcnnocjelcjaaGreatDoor
namespace Go.Proofs.YtamcnnocjelcjaaGreatDoor
open Go Go.RowKit Nt
theorem fit_shift (g : Bool) (n : Nat) (x : Int) : mkD g (odN n) (x + (lowN n : Int)) = mkD g n x ∧ mkE (odN n) (x + (lowN n : Int)) = mkE n x := by
  by_cases h0 : n = 0
  · subst h0; rw [odN_zero, mkD_zero, mkD_zero, mkE_zero, mkE_zero]; exact ⟨rfl, rfl⟩
  · have h := mkD_shift g (odN n) (lowN n) (x + (lowN n : Int))
    rw [← (odN_spec h0).2, show x + (lowN n : Int) - (lowN n : Int) = x by omega] at h
    exact ⟨h.1.symm, h.2.symm⟩
theorem nd2_W {n m : Nat} (h : nd W n ≤ m) : nd 2 n ≤ 64 * m := (nd_pow (b := 2) (c := W) (e := 64) (by omega) (by omega) W_two n m).2 h
theorem fit_bits {n : Nat} : (131072 < nd 2 n - lowN n) ↔ ¬ fits (odN n) := by
  by_cases h0 : n = 0
  · subst h0; rw [odN_zero, nd_zero]; exact ⟨fun c => by omega, fun c => absurd fits_zero c⟩
  · have h1 := nd_odN h0
    have h2 := bits_le (odN n) 16384
    unfold fits
    omega
theorem Row.allocd {w : World} {B : Nat} {A : Option Addr} {n L : Nat} (h : Row w B A n L) (hB : B ≤ w.heap.size) (b : Obj) : Row (w.alloc b) B A n L := h.below ((Below.refl _ _).alloc hB _)
set_option maxRecDepth 100000 in
set_option maxHeartbeats 1000000 in
theorem DFit_c (g : Bool) (n : Nat) (x : Int) (A : Option Addr) (c B : Nat) (w : World) (hn : nd W n ≤ 10000) (hx : -2000000 ≤ x ∧ x ≤ 2000000) (hr : Row w B A n (nd W n)) (hB : B ≤ w.heap.size) (hT : Bt.Tabs w) :
    Calls Tryz.prog 63 #[.bool g, .slice A (nd W n) c, .int .i64 x] w (MkPost g n x w) := by
  have hbits := nd2_W hn
  have hll : lowN n ≤ nd 2 n := by
    by_cases h0 : n = 0
    · rw [h0, lowN_zero]; omega
    · exact Nat.le_of_lt (low_lt h0 (lowN_is n))
  have hfb := @fit_bits n
  have K1 : Hid (∀ b, Calls Tryz.prog 106 #[.slice A (nd W n) c] (w.alloc b) fun e w' => e = .returned (.int .i64 (lowN n : Nat)) ∧ w.alloc b = w') := Lib.hid fun b => LLow_c A c n B _ (by omega) (hr.allocd hB b) (box_tabs hT)
  have K2 : Hid (∀ b, Calls Tryz.prog 107 #[.slice A (nd W n) c] (w.alloc b) fun e w' => e = .returned (.int .i64 (nd 2 n : Nat)) ∧ w.alloc b = w') := Lib.hid fun b => Len_c A c n B _ (by omega) (hr.allocd hB b)
  have K3 : Hid (∀ b, Calls Tryz.prog 97 #[.slice A (nd W n) c, .int .i64 (lowN n : Nat)] (w.alloc b) (NumPost (odN n) (w.alloc b))) := Lib.hid fun b => by
    have := Shr_c A c n (lowN n) B (w.alloc b) (by omega) (by omega) (hr.allocd hB b) (Nat.le_trans hB (by simp))
    unfold odN; exact this
  have hno : nd W (odN n) ≤ 10000 := Nat.le_trans (nd_mono W2 (odN_le n)) hn
  have K4 := Lib.hid (fun A' c' w' (hr' : Row w' w'.heap.size A' (odN n) (nd W (odN n))) => Bytes_c A' c' (odN n) w'.heap.size w' (by omega) hr' (Nat.le_refl _))
  have hfs := fit_shift g n x
  by_cases hfit : fits (odN n)
  · have KM : Hid (∀ w, Calls Tryz.prog 108 #[.bool g, .string (natS (odN n)), .int .i64 (x + (lowN n : Int))] w fun e w' => e = .returned (.tuple #[(mkD g n x).v, .int .i64 (mkE n x)]) ∧ Below w.heap.size w w') := Lib.hid fun w => by
      have := DMake_c g (odN n) (x + (lowN n : Int)) w hfit (by omega)
      unfold MkPost at this
      rw [hfs.1, hfs.2] at this
      exact this
    have h1 : ¬ (131072 : Int) < ((nd 2 n : Nat) : Int) - ((lowN n : Nat) : Int) := by
      have : ¬ 131072 < nd 2 n - lowN n := fun c => hfb.1 c hfit
      omega
    clear hfb hr hB hT hfit hfs
    clear hno hn
    unfold MkPost
    generalize mkD g n x = D at *
    generalize mkE n x = E at *
    go_enter Tryz.func63, Tryz.ntmps63
    go_wp2_with fail
    refine (K1.out _).mono ?_
    rintro e w' ⟨rfl, rfl⟩
    go_wp2_with fail
    refine (K2.out _).mono ?_
    rintro e w' ⟨rfl, rfl⟩
    go_wp2_with fail
    refine (K3.out _).mono ?_
    rintro e w1 hnp
    obtain ⟨A3, c3, rfl, hc3, hr3, hb3⟩ := hnp.get
    have HR3 := Lib.hid hr3
    clear hr3 hc3 hnp
    go_wp2_with fail
    refine (K4.out _ _ _ HR3.out).mono ?_
    rintro e w2 ⟨rfl, hb4⟩
    have hb := below_then hb3 hb4
    clear hb3 hb4
    go_wp2_with fail
    refine (KM.out _).mono ?_
    rintro e w3 ⟨rfl, hb5⟩
    have hb := below_then hb hb5
    obtain ⟨hcl, hfz⟩ := bcell hb
    have hsz := box1 hb
    clear hb5
    unfold Dy.v
    go_wp2_with fail
    refine bodyPost_ret (v := .tuple #[D.v, .int .i64 E]) (by simp [results, Tryz.results63, go_sem, hcl, hsz, Dy.v]) rfl ⟨rfl, ?_⟩
    repeat (refine Below.setCell ?_ (by simp) _)
    exact box_below hb
  · have hno2 : ¬ mkOk3 n x := by
      rintro (h | ⟨h, _⟩)
      · subst h; rw [odN_zero] at hfit; exact hfit fits_zero
      · exact hfit h
    have HNO := Lib.hid hno2
    have h1 : (131072 : Int) < ((nd 2 n : Nat) : Int) - ((lowN n : Nat) : Int) := by
      have := hfb.2 hfit
      omega
    clear hfb hr hB hT hfit hfs hno2
    clear hno hn
    go_enter Tryz.func63, Tryz.ntmps63
    go_wp2_with fail
    refine (K1.out _).mono ?_
    rintro e w' ⟨rfl, rfl⟩
    go_wp2_with fail
    refine (K2.out _).mono ?_
    rintro e w' ⟨rfl, rfl⟩
    go_wp2_with fail
    refine bodyPost_ret (v := .tuple #[.agg #[.bool false, .string ⟨#[]⟩, .int .i64 0], .int .i64 4]) (by simp [results, Tryz.results63, go_sem]) rfl (MkPost.no HNO.out rfl ?_)
    repeat (refine Below.setCell ?_ (by simp) _)
    exact (Below.refl _ _).alloc (Nat.le_refl _) _
end Go.Proofs.YtamcnnocjelcjaaGreatDoor
namespace Go.Proofs.YtamcnnocjelcjaaGreatDoor
open Go Go.RowKit Nt
def sgnd (g : Bool) (m : Nat) : Int := if g then -(m : Int) else (m : Int)
def sumG (g h : Bool) (X Y : Nat) : Bool := if g = h then g else if X < Y then h else g
def sumN (g h : Bool) (X Y : Nat) : Nat := if g = h then X + Y else if X < Y then Y - X else X - Y
theorem sum_abs (g h : Bool) (X Y : Nat) : (sgnd g X + sgnd h Y).natAbs = sumN g h X Y := by
  unfold sgnd sumN
  cases g <;> cases h <;> simp <;> (try split) <;> omega
theorem sum_sgn (g h : Bool) (X Y : Nat) (h0 : sumN g h X Y ≠ 0) : decide (sgnd g X + sgnd h Y < 0) = sumG g h X Y := by
  by_cases hl : X < Y <;> cases g <;> cases h <;> simp [sgnd, sumN, sumG, hl] at h0 ⊢ <;> omega
theorem sum_mk (g h : Bool) (X Y : Nat) (x : Int) : mkD (decide (sgnd g X + sgnd h Y < 0)) (sgnd g X + sgnd h Y).natAbs x = mkD (sumG g h X Y) (sumN g h X Y) x := by
  rw [sum_abs]
  by_cases h0 : sumN g h X Y = 0
  · rw [h0, mkD_zero, mkD_zero]
  · rw [sum_sgn g h X Y h0]
@[irreducible] def hiD (a b : Dy) : Dy := mkD (sumG a.g b.g (upN a b) b.n) (sumN a.g b.g (upN a b) b.n) b.x
@[irreducible] def hiE (a b : Dy) : Int := mkE (sumN a.g b.g (upN a b) b.n) b.x
theorem hiD_eq (a b : Dy) : hiD a b = mkD (sumG a.g b.g (upN a b) b.n) (sumN a.g b.g (upN a b) b.n) b.x := by unfold hiD; rfl
theorem hiE_eq (a b : Dy) : hiE a b = mkE (sumN a.g b.g (upN a b) b.n) b.x := by unfold hiE; rfl
@[irreducible] def addD (a b : Dy) : Dy := if a.n = 0 then b else if b.n = 0 then a else if a.x < b.x then hiD b a else hiD a b
@[irreducible] def addE (a b : Dy) : Int := if a.n = 0 then 0 else if b.n = 0 then 0 else if a.x < b.x then hiE b a else hiE a b
theorem add_zl {a b : Dy} (h : a.n = 0) : addD a b = b ∧ addE a b = 0 := by unfold addD addE; rw [if_pos h, if_pos h]; exact ⟨rfl, rfl⟩
theorem add_zr {a b : Dy} (h0 : a.n ≠ 0) (h : b.n = 0) : addD a b = a ∧ addE a b = 0 := by unfold addD addE; rw [if_neg h0, if_neg h0, if_pos h, if_pos h]; exact ⟨rfl, rfl⟩
theorem add_lt {a b : Dy} (h0 : a.n ≠ 0) (h1 : b.n ≠ 0) (h : a.x < b.x) : addD a b = hiD b a ∧ addE a b = hiE b a := by unfold addD addE; rw [if_neg h0, if_neg h0, if_neg h1, if_neg h1, if_pos h, if_pos h]; exact ⟨rfl, rfl⟩
theorem add_ge {a b : Dy} (h0 : a.n ≠ 0) (h1 : b.n ≠ 0) (h : ¬ a.x < b.x) : addD a b = hiD a b ∧ addE a b = hiE a b := by unfold addD addE; rw [if_neg h0, if_neg h0, if_neg h1, if_neg h1, if_neg h, if_neg h]; exact ⟨rfl, rfl⟩
theorem add_Ok {a b : Dy} (ha : a.Ok) (hb : b.Ok) : (addD a b).Ok := by
  unfold addD
  split
  · exact hb
  · split
    · exact ha
    · split
      · rw [hiD_eq]; exact mkD_Ok _ _ _
      · rw [hiD_eq]; exact mkD_Ok _ _ _
theorem sgnd_i64 {m : Nat} (h : m ≤ 9223372036854775807) : IntKind.i64.wrap (m : Int) = (m : Int) ∧ IntKind.i64.wrap (-(m : Int)) = -(m : Int) := ⟨IntWalk.i64_in _ (by omega), IntWalk.i64_in _ (by omega)⟩
set_option maxRecDepth 100000 in
theorem Dsigned_c (g : Bool) (m : Nat) (w : World) (hm : m ≤ 9223372036854775807) :
    Calls Tryz.prog 104 #[.bool g, .int .u64 (m : Nat)] w fun e w' => e = .returned (.int .i64 (sgnd g m)) ∧ w = w' := by
  obtain ⟨h1, h2⟩ := sgnd_i64 hm
  have h3 : wrap64 (m : Int) = (m : Int) := IntWalk.wrap64_in _ (by omega)
  have h4 : wrap64 (-(m : Int)) = -(m : Int) := IntWalk.wrap64_in _ (by omega)
  cases g
  · go_enter Tryz.func104, Tryz.ntmps104
    go_wp2
    go_ret
    exact ⟨rfl, rfl⟩
  · go_enter Tryz.func104, Tryz.ntmps104
    go_wp2
    go_ret
    exact ⟨rfl, rfl⟩
end Go.Proofs.YtamcnnocjelcjaaGreatDoor
namespace Go.Proofs.YtamcnnocjelcjaaGreatDoor
open Go Go.RowKit Nt
theorem len64_nd (m : Nat) (hm : m < 18446744073709551616) (w : World) : Calls Tryz.prog 103 #[.int .u64 (m : Nat)] w fun e w' => e = .returned (.int .i64 (nd 2 m : Nat)) ∧ w' = w := by
  have := Tryz.bits_Len64 (m : Int) w (by omega) (by omega)
  rw [Int.toNat_natCast, bitLen_nd hm] at this
  exact this
def BrPost (a b : Dy) (w : World) (e : Ending) (w' : World) : Prop := ∃ (D : Dy) (ok : Bool), e = .returned (.tuple #[.agg #[.bool D.g, .string (natS D.n), .int .i64 D.x], .bool ok]) ∧ (ok = true → D = hiD a b ∧ hiE a b = 0) ∧ Below w.heap.size w w'
theorem TB3 {w : World} {a b : Dt} {W w1 : World} {o : Obj} (h : TB w a b W) (hb : Below (W.alloc o).heap.size (W.alloc o) w1) : TB w a b w1 := (h.more o).step hb
theorem pow_lt62 {m j : Nat} (h : nd 2 m + j ≤ 62) : m * 2 ^ j < 4611686018427387904 := by
  have h1 : m < 2 ^ nd 2 m := lt_nd (by omega)
  have h2 : m * 2 ^ j < 2 ^ nd 2 m * 2 ^ j := Nat.mul_lt_mul_of_pos_right h1 (Nat.two_pow_pos j)
  rw [← Nat.pow_add] at h2
  exact Nat.lt_of_lt_of_le h2 (Nat.le_trans (Nat.pow_le_pow_right (by omega) h) (by decide))
theorem lt62 {m : Nat} (h : nd 2 m ≤ 62) : m < 4611686018427387904 := by
  have := pow_lt62 (m := m) (j := 0) (by omega)
  rwa [Nat.pow_zero, Nat.mul_one] at this
set_option maxRecDepth 100000 in
set_option maxHeartbeats 2000000 in
theorem Dbrief_no (a b : Dy) (j : Nat) (w : World) (ha : a.Num) (hb : b.Num) (hj : j ≤ 3000000) (hno : brB a.n = false ∨ (brB a.n = true ∧ brB b.n = false) ∨ (brB a.n = true ∧ brB b.n = true ∧ 62 < j) ∨ (brB a.n = true ∧ brB b.n = true ∧ ¬ 62 < j ∧ 62 < nd 2 a.n + j) ∨ (brB a.n = true ∧ brB b.n = true ∧ ¬ 62 < j ∧ ¬ 62 < nd 2 a.n + j ∧ 62 < nd 2 b.n)) :
    Calls Tryz.prog 60 #[.agg #[.bool a.g, .string (natS a.n), .int .i64 a.x], .agg #[.bool b.g, .string (natS b.n), .int .i64 b.x], .int .i64 (j : Nat)] w (BrPost a b w) := by
  have KA := Lib.hid (fun w => Small_c a.n w ha.1)
  have KB := Lib.hid (fun w => Small_c b.n w hb.1)
  have hba := bits_131072' ha.1
  have hbb := bits_131072' hb.1
  have T0 := TB.start w a.t b.t
  unfold Dy.t at T0
  have KLa : Hid (∀ w, brB a.n = true → Calls Tryz.prog 103 #[.int .u64 (brN a.n : Nat)] w fun e w' => e = .returned (.int .i64 (nd 2 a.n : Nat)) ∧ w' = w) := Lib.hid fun w h => by
    have h1 := br_lt.1 (brB_true h)
    have h2 : brN a.n = a.n := brN_yes (brB_true h)
    rw [h2]; exact len64_nd a.n h1 w
  have KLb : Hid (∀ w, brB b.n = true → Calls Tryz.prog 103 #[.int .u64 (brN b.n : Nat)] w fun e w' => e = .returned (.int .i64 (nd 2 b.n : Nat)) ∧ w' = w) := Lib.hid fun w h => by
    have h1 := br_lt.1 (brB_true h)
    have h2 : brN b.n = b.n := brN_yes (brB_true h)
    rw [h2]; exact len64_nd b.n h1 w
  clear ha hb
  rcases hno with c1 | ⟨c1, c2⟩ | ⟨c1, c2, c3⟩ | ⟨c1, c2, c3, c4⟩ | ⟨c1, c2, c3, c4, c5⟩
  all_goals
    go_enter Tryz.func60, Tryz.ntmps60
    go_wp2_with fail
    refine (KA.out _).mono ?_
    rintro e w1 ⟨rfl, hb⟩
    have hb1 := (TB.start w a.t b.t).more (.cells #[.bool false, .string ⟨#[]⟩, .int .i64 0] 24) |>.1
    obtain ⟨hcl, hfz⟩ := bcell hb
    have hsz : w.heap.size + 2 < w1.heap.size := by have := hb.size; simp at this; omega
    replace T0 := TB3 T0 hb
    obtain ⟨p0, p1, p2, p3, p4, p5, p6⟩ := T0.2.1.facts
    obtain ⟨q0, q1, q2, q3, q4, q5, q6⟩ := T0.2.2.facts
    go_wp2_with fail
    refine (KB.out _).mono ?_
    rintro e w2 ⟨rfl, hbb2⟩
    replace T0 := T0.step hbb2
    have hb3 := hb.trans (hbb2.mono hb.size)
    clear hb hbb2 hcl hfz p0 p1 p2 p3 p4 p5 p6 q0 q1 q2 q3 q4 q5 q6
    obtain ⟨hcl, hfz⟩ := bcell hb3
    have hsz2 : w.heap.size + 2 < w2.heap.size := by have := hb3.size; simp at this; omega
    go_wp2_with (first
      | (go_at_call 103; (with_reducible refine (KLa.out _ c1).mono ?_); rintro e w' ⟨rfl, rfl⟩)
      | (go_at_call 103; (with_reducible refine (KLb.out _ c2).mono ?_); rintro e w' ⟨rfl, rfl⟩))
    refine bodyPost_ret (v := .tuple #[.agg #[.bool false, .string ⟨#[]⟩, .int .i64 0], .bool false]) (by simp [results, Tryz.results60, go_sem, hcl, hsz, hsz2]) rfl ⟨Dy.zero, false, by rw [← natS_zero]; rfl, fun c => (by cases c), ?_⟩
    repeat (refine Below.setCell ?_ (by simp; omega) _)
    exact T0.1
end Go.Proofs.YtamcnnocjelcjaaGreatDoor
namespace Go.Proofs.YtamcnnocjelcjaaGreatDoor
open Go Go.RowKit Nt
theorem shl_u64 {m j X : Nat} (hX : X = m * 2 ^ j) (h : X < 18446744073709551616) : Hid (IntKind.u64.wrap ((m : Int) * 2 ^ j) = (X : Int)) := Lib.hid (by
  rw [wr_pow (s := 2 ^ j) rfl, ← hX, IntKind.wrap_u64]; clear hX; omega)
theorem sgnd_b (g : Bool) {m : Nat} (h : m < 4611686018427387904) : -4611686018427387904 < sgnd g m ∧ sgnd g m < 4611686018427387904 := by
  unfold sgnd; cases g <;> simp <;> omega
set_option maxRecDepth 100000 in
set_option maxHeartbeats 2000000 in
theorem Dbrief_yes (a b : Dy) (j : Nat) (w : World) (ha : a.Num) (hb : b.Num) (hj : j = (a.x - b.x).toNat) (c1 : brB a.n = true) (c2 : brB b.n = true) (c3 : ¬ 62 < j) (c4 : ¬ 62 < nd 2 a.n + j) (c5 : ¬ 62 < nd 2 b.n) :
    Calls Tryz.prog 60 #[.agg #[.bool a.g, .string (natS a.n), .int .i64 a.x], .agg #[.bool b.g, .string (natS b.n), .int .i64 b.x], .int .i64 (j : Nat)] w (BrPost a b w) := by
  have hna : brN a.n = a.n := brN_yes (brB_true c1)
  have hnb : brN b.n = b.n := brN_yes (brB_true c2)
  have KA := Lib.hid (fun w => Small_c a.n w ha.1)
  have KB := Lib.hid (fun w => Small_c b.n w hb.1)
  rw [hna, c1] at KA
  rw [hnb, c2] at KB
  have T0 := TB.start w a.t b.t
  unfold Dy.t at T0
  have KLa := Lib.hid (fun w => len64_nd a.n (br_lt.1 (brB_true c1)) w)
  have KLb := Lib.hid (fun w => len64_nd b.n (br_lt.1 (brB_true c2)) w)
  obtain ⟨X, hX⟩ : ∃ X, X = a.n * 2 ^ j := ⟨_, rfl⟩
  have hXb : X < 4611686018427387904 := by rw [hX]; exact pow_lt62 (by omega)
  have hYb : b.n < 4611686018427387904 := lt62 (by omega)
  have HSH := shl_u64 hX (by omega)
  have KSa := Lib.hid (fun w => Dsigned_c a.g X w (by omega))
  have KSb := Lib.hid (fun w => Dsigned_c b.g b.n w (by omega))
  have hs1 := sgnd_b a.g hXb
  have hs2 := sgnd_b b.g hYb
  have hxb := hb.2.2
  obtain ⟨S, hS⟩ : ∃ S, sgnd a.g X + sgnd b.g b.n = S := ⟨_, rfl⟩
  have KO := Lib.hid (fun w => DOf_c S b.x w (by omega) (by omega))
  have hmk := sum_mk a.g b.g X b.n b.x
  have hme := sum_abs a.g b.g X b.n
  rw [hS] at hmk hme
  have hup : upN a b = X := by rw [upN_eq, ← hj, hX]
  have hD : mkD (decide (S < 0)) S.natAbs b.x = hiD a b := by rw [hiD_eq, hup]; exact hmk
  have hE : mkE S.natAbs b.x = hiE a b := by rw [hiE_eq, hup, hme]
  unfold MkPost at KO
  rw [hD, hE] at KO
  have hw : IntKind.i64.wrap S = S := IntWalk.i64_in _ (by omega)
  have hw2 : wrap64 S = S := IntWalk.wrap64_in _ (by omega)
  have HD : (hiE a b == 0) = true ↔ hiE a b = 0 := beq_iff_eq
  clear hX hmk hme hup hD hE ha hb hna hnb c1 c2 hj
  generalize sgnd a.g X = s1 at *
  generalize sgnd b.g b.n = s2 at *
  have HDD := Lib.hid HD
  clear HD
  generalize hE9 : hiE a b = E at *
  have HE9 := Lib.hid hE9
  clear hE9
  generalize hh : hiD a b = D at *
  have HH := Lib.hid hh
  clear hh
  go_enter Tryz.func60, Tryz.ntmps60
  go_wp2_with fail
  refine (KA.out _).mono ?_
  rintro e w1 ⟨rfl, hb⟩
  have hsz : w.heap.size + 2 < w1.heap.size := by have := hb.size; simp at this; omega
  replace T0 := TB3 T0 hb
  obtain ⟨p0, p1, p2, p3, p4, p5, p6⟩ := T0.2.1.facts
  obtain ⟨q0, q1, q2, q3, q4, q5, q6⟩ := T0.2.2.facts
  go_wp2_with fail
  refine (KB.out _).mono ?_
  rintro e w2 ⟨rfl, hbb2⟩
  replace T0 := T0.step hbb2
  have hb3 := hb.trans (hbb2.mono hb.size)
  clear hb hbb2 p0 p1 p2 p3 p4 p5 p6 q0 q1 q2 q3 q4 q5 q6
  go_wp2_with (first
    | (go_at_call 103; (with_reducible refine (KLa.out _).mono ?_); rintro e w' ⟨rfl, rfl⟩)
    | (go_at_call 103; (with_reducible refine (KLb.out _).mono ?_); rintro e w' ⟨rfl, rfl⟩))
  have L0 := fun W (h : TB w ⟨a.g, natS a.n, a.x⟩ ⟨b.g, natS b.n, b.x⟩ W) => h.2.1.facts.2.1
  have L3 := fun W (h : TB w ⟨a.g, natS a.n, a.x⟩ ⟨b.g, natS b.n, b.x⟩ W) => h.2.2.facts.2.1
  go_region_held3 (TB w ⟨a.g, natS a.n, a.x⟩ ⟨b.g, natS b.n, b.x⟩) (first | assumption | exact TB.step (by assumption) (by assumption) | exact TB.drew (by assumption) | exact TB.drawn (by assumption) _)
    (first
      | (go_at_call 104; rw [HSH.out]; (with_reducible refine (KSa.out _).mono ?_); rintro e w' ⟨rfl, rfl⟩)
      | (go_at_call 104; (with_reducible refine (KSb.out _).mono ?_); rintro e w' ⟨rfl, rfl⟩))
  rename_i hHeld
  clear T0 L0 L3
  have T0 := hHeld
  clear hHeld
  have hb4 := hb3.drew
  clear hb3
  generalize w'.drew = w3 at *
  obtain ⟨p0, p1, p2, p3, p4, p5, p6⟩ := T0.2.1.facts
  obtain ⟨q0, q1, q2, q3, q4, q5, q6⟩ := T0.2.2.facts
  go_wp2_with fail
  refine (KO.out _).mono ?_
  rintro e w4 ⟨rfl, hb5⟩
  replace T0 := T0.step hb5
  have hb6 := (hb4.trans (hb5.mono hb4.size)).alloc (hb4.trans (hb5.mono hb4.size)).size (.cells #[.bool D.g, .string (natS D.n), .int .i64 D.x] 24)
  have hb7 := (T0.more (.cells #[.bool D.g, .string (natS D.n), .int .i64 D.x] 24)).1
  clear hb4 hb5 p0 p1 p2 p3 p4 p5 p6 q0 q1 q2 q3 q4 q5 q6
  obtain ⟨hcl, hfz⟩ := bcell hb6
  have hsz2 : w.heap.size + 2 < w4.heap.size + 1 := by have := hb6.size; simp at this; omega
  unfold Dy.v
  by_cases hE0 : E = 0
  · subst hE0
    go_wp2_with fail
    refine bodyPost_ret (v := .tuple #[.agg #[.bool D.g, .string (natS D.n), .int .i64 D.x], .bool true]) (by simp [results, Tryz.results60, go_sem, hcl, hsz, hsz2]) rfl ⟨D, true, rfl, fun _ => ⟨HH.out.symm, HE9.out⟩, ?_⟩
    repeat (refine Below.setCell ?_ (by simp; omega) _)
    exact hb7
  · have hE1 : (E == 0) = false := by rw [beq_eq_false_iff_ne]; exact hE0
    go_wp2_with fail
    refine bodyPost_ret (v := .tuple #[.agg #[.bool D.g, .string (natS D.n), .int .i64 D.x], .bool false]) (by simp [results, Tryz.results60, go_sem, hcl, hsz, hsz2]) rfl ⟨D, false, rfl, fun c => (by cases c), ?_⟩
    repeat (refine Below.setCell ?_ (by simp; omega) _)
    exact hb7
end Go.Proofs.YtamcnnocjelcjaaGreatDoor
namespace Go.Proofs.YtamcnnocjelcjaaGreatDoor
open Go Go.RowKit Nt
theorem Dbrief_c (a b : Dy) (j : Nat) (w : World) (ha : a.Num) (hb : b.Num) (hj : j = (a.x - b.x).toNat) (hj2 : j ≤ 3000000) :
    Calls Tryz.prog 60 #[.agg #[.bool a.g, .string (natS a.n), .int .i64 a.x], .agg #[.bool b.g, .string (natS b.n), .int .i64 b.x], .int .i64 (j : Nat)] w (BrPost a b w) := by
  cases c1 : brB a.n with
  | false => exact Dbrief_no a b j w ha hb hj2 (Or.inl c1)
  | true =>
    cases c2 : brB b.n with
    | false => exact Dbrief_no a b j w ha hb hj2 (Or.inr (Or.inl ⟨c1, c2⟩))
    | true =>
      by_cases c3 : 62 < j
      · exact Dbrief_no a b j w ha hb hj2 (Or.inr (Or.inr (Or.inl ⟨c1, c2, c3⟩)))
      · by_cases c4 : 62 < nd 2 a.n + j
        · exact Dbrief_no a b j w ha hb hj2 (Or.inr (Or.inr (Or.inr (Or.inl ⟨c1, c2, c3, c4⟩))))
        · by_cases c5 : 62 < nd 2 b.n
          · exact Dbrief_no a b j w ha hb hj2 (Or.inr (Or.inr (Or.inr (Or.inr ⟨c1, c2, c3, c4, c5⟩))))
          · exact Dbrief_yes a b j w ha hb hj c1 c2 c3 c4 c5
def TC (w : World) (a b : Dt) (W : World) : Prop := TB w a b W ∧ Box3 W (w.heap.size + 2) (.bool false) (.string ⟨#[]⟩) (.int .i64 0)
theorem TC.start (w : World) (a b : Dt) : TC w a b (((w.alloc (.cells #[.bool a.g, .string a.s, .int .i64 a.x] 24)).alloc (.cells #[.bool b.g, .string b.s, .int .i64 b.x] 24)).alloc (.cells #[.bool false, .string ⟨#[]⟩, .int .i64 0] 24)) := by
  refine ⟨(TB.start w a b).more _, ?_⟩
  have := Box3.new ((w.alloc (.cells #[.bool a.g, .string a.s, .int .i64 a.x] 24)).alloc (.cells #[.bool b.g, .string b.s, .int .i64 b.x] 24)) (.bool false) (.string ⟨#[]⟩) (.int .i64 0)
  simpa using this
theorem TC.step {w : World} {a b : Dt} {W W' : World} (h : TC w a b W) (hb : Below W.heap.size W W') : TC w a b W' := ⟨h.1.step hb, h.2.step hb⟩
theorem TC.more {w : World} {a b : Dt} {W : World} (h : TC w a b W) (o : Obj) : TC w a b (W.alloc o) := h.step ((Below.refl _ _).alloc (Nat.le_refl _) _)
theorem TC.drawn {w : World} {a b : Dt} {W : World} (h : TC w a b W) (n : Nat) : TC w a b (W.drewN n) := h.step (below_drewN (Below.refl _ _) n)
theorem TC.drew {w : World} {a b : Dt} {W : World} (h : TC w a b W) : TC w a b W.drew := h.step (Below.refl _ _).drew
theorem TC.fin {w : World} {a b : Dt} {W : World} (h : TC w a b W) (x y z : Value) : Below w.heap.size w (((W.setCell ⟨w.heap.size + 2, 0, none⟩ x).setCell ⟨w.heap.size + 2, 1, none⟩ y).setCell ⟨w.heap.size + 2, 2, none⟩ z) := below_put h.1.1 (by omega) x y z
theorem all_ok2 (a b : Dy) (ha : a.Ok) (hb : b.Ok) (W : World) (T : TypeId) (A : Nat) (hA : A = W.heap.size) :
    Calls Tryz.prog 35 #[.slice (some ⟨A, 0, none⟩) 2 2] (W.alloc (.cells #[.bool a.g, .string (natS a.n), .int .i64 a.x, .bool b.g, .string (natS b.n), .int .i64 b.x] T)) fun e w' => e = .returned (.int .i64 0) ∧ Below (W.alloc (.cells #[.bool a.g, .string (natS a.n), .int .i64 a.x, .bool b.g, .string (natS b.n), .int .i64 b.x] T)).heap.size (W.alloc (.cells #[.bool a.g, .string (natS a.n), .int .i64 a.x, .bool b.g, .string (natS b.n), .int .i64 b.x] T)) w' := by
  have := Dall2 a.t b.t W T A hA (by have := Dy.small ha; show (natS a.n).size ≤ _; omega) (by have := Dy.small hb; show (natS b.n).size ≤ _; omega)
  rwa [dE_ok (fun t ht => by
    rcases List.mem_cons.1 ht with rfl | ht
    · exact Dy.ok_t ha
    · rw [List.mem_singleton.1 ht]; exact Dy.ok_t hb)] at this
set_option maxRecDepth 100000 in
set_option maxHeartbeats 2000000 in
theorem DAdd_zl (b : Dy) (w : World) (hb : b.Ok) :
    Calls Tryz.prog 38 #[.agg #[.bool false, .string ⟨#[]⟩, .int .i64 0], .agg #[.bool b.g, .string (natS b.n), .int .i64 b.x]] w fun e w' => e = .returned (.tuple #[.agg #[.bool b.g, .string (natS b.n), .int .i64 b.x], .int .i64 0]) ∧ Below w.heap.size w w' := by
  have KA := Lib.hid (fun W T A hA => all_ok2 Dy.zero b (Or.inl rfl) hb W T A hA)
  simp only [Dy.zero, natS_zero] at KA
  have T0 := TC.start w ⟨false, ⟨#[]⟩, 0⟩ b.t
  unfold Dy.t at T0
  clear hb
  go_enter Tryz.func38, Tryz.ntmps38
  go_wp2_with fail
  refine (KA.out _ _ _ (by simp)).mono ?_
  rintro e w1 ⟨rfl, hb⟩
  replace T0 := (T0.more _).step hb
  clear hb
  obtain ⟨p0, p1, p2, p3, p4, p5, p6⟩ := T0.1.2.1.facts
  obtain ⟨q0, q1, q2, q3, q4, q5, q6⟩ := T0.1.2.2.facts
  obtain ⟨r0, r1, r2, r3, r4, r5, r6⟩ := T0.2.facts
  go_wp2_with fail
  refine bodyPost_ret (v := .tuple #[.agg #[.bool b.g, .string (natS b.n), .int .i64 b.x], .int .i64 0]) (by simp [results, Tryz.results38, go_sem, r0, r1, r2, r3]) rfl ⟨rfl, ?_⟩
  repeat (refine Below.setCell ?_ (by simp; omega) _)
  exact T0.1.1
set_option maxRecDepth 100000 in
set_option maxHeartbeats 2000000 in
theorem DAdd_zr (a : Dy) (w : World) (ha : a.Num) :
    Calls Tryz.prog 38 #[.agg #[.bool a.g, .string (natS a.n), .int .i64 a.x], .agg #[.bool false, .string ⟨#[]⟩, .int .i64 0]] w fun e w' => e = .returned (.tuple #[.agg #[.bool a.g, .string (natS a.n), .int .i64 a.x], .int .i64 0]) ∧ Below w.heap.size w w' := by
  have KA := Lib.hid (fun W T A hA => all_ok2 a Dy.zero (Or.inr ha) (Or.inl rfl) W T A hA)
  simp only [Dy.zero, natS_zero] at KA
  have T0 := TC.start w a.t ⟨false, ⟨#[]⟩, 0⟩
  unfold Dy.t at T0
  have hE := natS_full (odd_ne ha.2.1)
  have hE2 := natS_full2 (odd_ne ha.2.1)
  clear ha
  go_enter Tryz.func38, Tryz.ntmps38
  go_wp2_with fail
  refine (KA.out _ _ _ (by simp)).mono ?_
  rintro e w1 ⟨rfl, hb⟩
  replace T0 := (T0.more _).step hb
  clear hb
  obtain ⟨p0, p1, p2, p3, p4, p5, p6⟩ := T0.1.2.1.facts
  obtain ⟨q0, q1, q2, q3, q4, q5, q6⟩ := T0.1.2.2.facts
  obtain ⟨r0, r1, r2, r3, r4, r5, r6⟩ := T0.2.facts
  go_wp2_with fail
  refine bodyPost_ret (v := .tuple #[.agg #[.bool a.g, .string (natS a.n), .int .i64 a.x], .int .i64 0]) (by simp [results, Tryz.results38, go_sem, r0, r1, r2, r3]) rfl ⟨rfl, ?_⟩
  repeat (refine Below.setCell ?_ (by simp; omega) _)
  exact T0.1.1
end Go.Proofs.YtamcnnocjelcjaaGreatDoor
namespace Go.Proofs.YtamcnnocjelcjaaGreatDoor
open Go Go.RowKit Nt
theorem TC.swap {w : World} {a b : Dt} {W : World} (h : TC w a b W) : TC w b a ((((((W.setCell ⟨w.heap.size, 0, none⟩ (.bool b.g)).setCell ⟨w.heap.size, 1, none⟩ (.string b.s)).setCell ⟨w.heap.size, 2, none⟩ (.int .i64 b.x)).setCell ⟨w.heap.size + 1, 0, none⟩ (.bool a.g)).setCell ⟨w.heap.size + 1, 1, none⟩ (.string a.s)).setCell ⟨w.heap.size + 1, 2, none⟩ (.int .i64 a.x)) := by
  obtain ⟨⟨h1, h2, h3⟩, h4⟩ := h
  refine ⟨⟨below_put (below_put h1 (Nat.le_refl _) _ _ _) (by omega) _ _ _, ?_, ?_⟩, ?_⟩
  · exact Box3.far (h2.put _ _ _) (by omega) _ _ _
  · exact Box3.put (Box3.far h3 (by omega) _ _ _) _ _ _
  · exact Box3.far (Box3.far h4 (by omega) _ _ _) (by omega) _ _ _
theorem hi_long {p q : Dy} (hp : p.Num) (hq : q.Num) (hx : 131072 < p.x - q.x) : hiD p q = Dy.zero ∧ hiE p q = 4 := by
  obtain ⟨j, hj⟩ : ∃ j, j = (p.x - q.x).toNat := ⟨_, rfl⟩
  obtain ⟨E, hE⟩ : ∃ E, E = 131072 := ⟨_, rfl⟩
  have hj2 : E + 1 ≤ j := by omega
  have hup : upN p q = p.n * 2 ^ j := by rw [upN_eq, ← hj]
  have hy : q.n < 2 ^ E := (lt_pow_iff (b := 2) (by omega) E q.n).2 (by rw [hE]; exact bits_131072' hq.1)
  have hX : 2 ^ (E + 1) ≤ upN p q := by
    rw [hup]
    exact Nat.le_trans (Nat.pow_le_pow_right (by omega) hj2) (Nat.le_mul_of_pos_left _ (Nat.pos_of_ne_zero (odd_ne hp.2.1)))
  have hev : upN p q % 2 = 0 := by
    rw [hup, show j = (j - 1) + 1 by omega, Nat.pow_succ, ← Nat.mul_assoc]; exact Nat.mul_mod_left _ _
  have hqo := hq.2.1
  rw [Nat.pow_succ] at hX
  have hbig : ∀ N, nd 2 N ≤ 131072 → N < 2 ^ E := fun N h => (lt_pow_iff (b := 2) (by omega) E N).2 (by omega)
  generalize (2 : Nat) ^ E = P at *
  clear hE hj2 hj
  have key : ∀ N, N % 2 = 1 → P ≤ N → ¬ mkOk3 N q.x := by
    intro N ho hN hk
    rcases hk with hk | ⟨hk, _⟩
    · exact odd_ne ho hk
    · rw [odN_odd ho] at hk
      have h2 := hbig N (bits_131072' hk)
      omega
  have hN : ¬ mkOk3 (sumN p.g q.g (upN p q) q.n) q.x := by
    unfold sumN
    split
    · exact key _ (by omega) (by omega)
    · rw [if_neg (by omega)]
      exact key _ (by omega) (by omega)
  exact ⟨by rw [hiD_eq, mkD_no hN], by rw [hiE_eq, mkE_no hN]⟩
theorem hi_same {p q : Dy} (h : p.g = q.g) (X : Nat) (hX : upN p q = X) : hiD p q = mkD p.g (X + q.n) q.x ∧ hiE p q = mkE (X + q.n) q.x := by
  rw [hiD_eq, hiE_eq, hX]; unfold sumG sumN; rw [if_pos h, if_pos h]; exact ⟨rfl, rfl⟩
theorem hi_lt {p q : Dy} (h : ¬ p.g = q.g) (X : Nat) (hX : upN p q = X) (hl : X < q.n) : hiD p q = mkD q.g (q.n - X) q.x ∧ hiE p q = mkE (q.n - X) q.x := by
  rw [hiD_eq, hiE_eq, hX]; unfold sumG sumN; rw [if_neg h, if_neg h, if_pos hl, if_pos hl]; exact ⟨rfl, rfl⟩
theorem hi_ge {p q : Dy} (h : ¬ p.g = q.g) (X : Nat) (hX : upN p q = X) (hl : ¬ X < q.n) : hiD p q = mkD p.g (X - q.n) q.x ∧ hiE p q = mkE (X - q.n) q.x := by
  rw [hiD_eq, hiE_eq, hX]; unfold sumG sumN; rw [if_neg h, if_neg h, if_neg hl, if_neg hl]; exact ⟨rfl, rfl⟩
theorem read_nat (n : Nat) (w : World) (hf : fits n) : Calls Tryz.prog 62 #[.string (natS n)] w (NumPost n w) := by
  have := Read_c (natS n) w (by rw [natS_size]; unfold fits at hf; omega)
  rwa [bytesN_natS] at this
theorem fits_W {n : Nat} (h : fits n) : nd W n ≤ 2048 := by
  have := words_bytes n
  unfold fits at h
  omega
end Go.Proofs.YtamcnnocjelcjaaGreatDoor
namespace Go.Proofs.YtamcnnocjelcjaaGreatDoor
open Go Go.RowKit Nt
def TD (w : World) (a b : Dt) (W : World) : Prop := TB w a b W ∧ ∃ x y z, Box3 W (w.heap.size + 2) x y z
theorem TD.step {w : World} {a b : Dt} {W W' : World} (h : TD w a b W) (hb : Below W.heap.size W W') : TD w a b W' := by
  obtain ⟨h1, x, y, z, h2⟩ := h; exact ⟨h1.step hb, x, y, z, h2.step hb⟩
theorem TD.drawn {w : World} {a b : Dt} {W : World} (h : TD w a b W) (n : Nat) : TD w a b (W.drewN n) := h.step (below_drewN (Below.refl _ _) n)
theorem TD.drew {w : World} {a b : Dt} {W : World} (h : TD w a b W) : TD w a b W.drew := h.step (Below.refl _ _).drew
theorem TC.td {w : World} {a b : Dt} {W : World} (h : TC w a b W) : TD w a b W := ⟨h.1, _, _, _, h.2⟩
theorem TD.put {w : World} {a b : Dt} {W : World} (h : TD w a b W) (x y z : Value) : TD w a b (((W.setCell ⟨w.heap.size + 2, 0, none⟩ x).setCell ⟨w.heap.size + 2, 1, none⟩ y).setCell ⟨w.heap.size + 2, 2, none⟩ z) := by
  obtain ⟨⟨h1, h2, h3⟩, x', y', z', h4⟩ := h
  exact ⟨⟨below_put h1 (by omega) _ _ _, h2.far (by omega) _ _ _, h3.far (by omega) _ _ _⟩, _, _, _, h4.put _ _ _⟩
theorem TD.res {w : World} {a b : Dt} {W : World} (h : TD w a b W) : w.heap.size + 2 < W.heap.size ∧ (W.cell? ⟨w.heap.size + 2, 0, none⟩).isSome = true ∧ (W.cell? ⟨w.heap.size + 2, 1, none⟩).isSome = true ∧ (W.cell? ⟨w.heap.size + 2, 2, none⟩).isSome = true ∧ W.frozen? ⟨w.heap.size + 2, 0, none⟩ = false ∧ W.frozen? ⟨w.heap.size + 2, 1, none⟩ = false ∧ W.frozen? ⟨w.heap.size + 2, 2, none⟩ = false := by
  obtain ⟨h1, x, y, z, h4⟩ := h
  obtain ⟨r0, r1, r2, r3, r4, r5, r6⟩ := h4.facts
  exact ⟨r0, by rw [r1]; rfl, by rw [r2]; rfl, by rw [r3]; rfl, r4, r5, r6⟩
@[irreducible] def cellAt (W : World) (B i : Nat) : Value := (W.cell? ⟨B, i, none⟩).getD undef
theorem cellAt_eq {W : World} {B i : Nat} {v : Value} (h : W.cell? ⟨B, i, none⟩ = some v) : W.cell? ⟨B, i, none⟩ = some (cellAt W B i) := by unfold cellAt; rw [h]; rfl
theorem TD.cells {w : World} {a b : Dt} {W : World} (h : TD w a b W) : w.heap.size + 2 < W.heap.size ∧ W.cell? ⟨w.heap.size + 2, 0, none⟩ = some (cellAt W (w.heap.size + 2) 0) ∧ W.cell? ⟨w.heap.size + 2, 1, none⟩ = some (cellAt W (w.heap.size + 2) 1) ∧ W.cell? ⟨w.heap.size + 2, 2, none⟩ = some (cellAt W (w.heap.size + 2) 2) ∧ W.frozen? ⟨w.heap.size + 2, 0, none⟩ = false ∧ W.frozen? ⟨w.heap.size + 2, 1, none⟩ = false ∧ W.frozen? ⟨w.heap.size + 2, 2, none⟩ = false := by
  obtain ⟨h1, x, y, z, h4⟩ := h
  obtain ⟨r0, r1, r2, r3, r4, r5, r6⟩ := h4.facts
  exact ⟨r0, cellAt_eq r1, cellAt_eq r2, cellAt_eq r3, r4, r5, r6⟩
theorem nd_addW {x y m : Nat} (hx : nd W x ≤ m) (hy : nd W y ≤ m) : nd W (x + y) ≤ m + 1 := by
  refine nd_le W2 ?_
  have h1 := (lt_pow_iff W2 m x).2 hx
  have h2 := (lt_pow_iff W2 m y).2 hy
  rw [Nat.pow_succ]
  have h4 := Nat.mul_le_mul_left (W ^ m) W2
  omega
set_option maxRecDepth 100000 in
set_option maxHeartbeats 4000000 in
theorem DAdd_num (a b : Dy) (w : World) (ha : a.Num) (hb : b.Num) (hG : Globs glT w) :
    Calls Tryz.prog 38 #[.agg #[.bool a.g, .string (natS a.n), .int .i64 a.x], .agg #[.bool b.g, .string (natS b.n), .int .i64 b.x]] w fun e w' => e = .returned (.tuple #[(addD a b).v, .int .i64 (addE a b)]) ∧ Below w.heap.size w w' := by
  have KA := Lib.hid (fun W T A hA => all_ok2 a b (Or.inr ha) (Or.inr hb) W T A hA)
  have T0 := TC.start w a.t b.t
  have hsw : ∃ p q : Dy, p.Num ∧ q.Num ∧ q.x ≤ p.x ∧ Hid (addD a b = hiD p q ∧ addE a b = hiE p q) ∧ ((a.x < b.x ∧ p = b ∧ q = a) ∨ (¬ a.x < b.x ∧ p = a ∧ q = b)) := by
    by_cases h : a.x < b.x
    · exact ⟨b, a, hb, ha, by omega, Lib.hid (add_lt (odd_ne ha.2.1) (odd_ne hb.2.1) h), Or.inl ⟨h, rfl, rfl⟩⟩
    · exact ⟨a, b, ha, hb, by omega, Lib.hid (add_ge (odd_ne ha.2.1) (odd_ne hb.2.1) h), Or.inr ⟨h, rfl, rfl⟩⟩
  obtain ⟨p, q, hp, hq, hle, HADD, hsw⟩ := hsw
  clear ha hb
  obtain ⟨j, hj⟩ : ∃ j, j = (p.x - q.x).toNat := ⟨_, rfl⟩
  have hpx := hp.2.2
  have hqx := hq.2.2
  have hjx : p.x - q.x = (j : Int) := by omega
  have KB := Lib.hid (fun w => Dbrief_c p q j w hp hq hj (by omega))
  have hEp := natS_full (odd_ne hp.2.1)
  have hEp2 := natS_full2 (odd_ne hp.2.1)
  have hEq := natS_full (odd_ne hq.2.1)
  have hEq2 := natS_full2 (odd_ne hq.2.1)
  have HTB := Lib.hid (fun W (h : TC w p.t q.t W) => tabs_of (hG.below h.1.1 (Nat.le_refl _)))
  have HGG := Lib.hid hG
  have HP := Lib.hid hp
  have HQ := Lib.hid hq
  have HJ := Lib.hid hj
  clear hp hq hG hj
  rcases hsw with ⟨hlt, h1, h2⟩ | ⟨hlt, h1, h2⟩
  case' inl =>
    subst h1 h2
    unfold Dy.t at T0
    go_enter Tryz.func38, Tryz.ntmps38
    go_wp2_with fail
    refine (KA.out _ _ _ (by simp)).mono ?_
    rintro e w1 ⟨rfl, hb⟩
    replace T0 := (T0.more _).step hb
    clear hb
    obtain ⟨p0, p1, p2, p3, p4, p5, p6⟩ := T0.1.2.1.facts
    obtain ⟨q0, q1, q2, q3, q4, q5, q6⟩ := T0.1.2.2.facts
    go_wp2_with fail
    refine (KB.out _).mono ?_
    rintro e w2 ⟨D, ok, rfl, hok, hb⟩
    replace T0 := (TC.swap T0).step hb
    clear hb p0 p1 p2 p3 p4 p5 p6 q0 q1 q2 q3 q4 q5 q6
  case' inr =>
    subst h1 h2
    unfold Dy.t at T0
    go_enter Tryz.func38, Tryz.ntmps38
    go_wp2_with fail
    refine (KA.out _ _ _ (by simp)).mono ?_
    rintro e w1 ⟨rfl, hb⟩
    replace T0 := (T0.more _).step hb
    clear hb
    obtain ⟨p0, p1, p2, p3, p4, p5, p6⟩ := T0.1.2.1.facts
    obtain ⟨q0, q1, q2, q3, q4, q5, q6⟩ := T0.1.2.2.facts
    go_wp2_with fail
    refine (KB.out _).mono ?_
    rintro e w2 ⟨D, ok, rfl, hok, hb⟩
    replace T0 := T0.step hb
    clear hb p0 p1 p2 p3 p4 p5 p6 q0 q1 q2 q3 q4 q5 q6
  all_goals
    have hok2 := Lib.hid hok
    clear hok
    cases ok
    case' true =>
      have hDD := hok2.out rfl
      have HDD := Lib.hid hDD
      clear hDD hok2
      replace T0 := T0.more (.cells #[.bool D.g, .string (natS D.n), .int .i64 D.x] 24)
      obtain ⟨r0, r1, r2, r3, r4, r5, r6⟩ := T0.2.facts
      go_wp2_with fail
      refine bodyPost_ret (v := .tuple #[.agg #[.bool D.g, .string (natS D.n), .int .i64 D.x], .int .i64 0]) (by simp [results, Tryz.results38, go_sem, r0, r1, r2, r3]) rfl ⟨?_, ?_⟩
      · rw [HADD.out.1, HADD.out.2, ← HDD.out.1, HDD.out.2]; rfl
      · repeat (refine Below.setCell ?_ (by simp; omega) _)
        exact T0.1.1
  all_goals
    clear hok2
    have T1 : TC w p.t q.t _ := (T0.more (.cells #[.bool D.g, .string (natS D.n), .int .i64 D.x] 24))
    have HT0 := Lib.hid T0
    clear T0
    by_cases hlong : 131072 < j
    case' pos =>
      have hL := hi_long HP.out HQ.out (by omega)
      have HL := Lib.hid hL
      clear hL
      obtain ⟨r0, r1, r2, r3, r4, r5, r6⟩ := (HT0.out.more (.cells #[.bool D.g, .string (natS D.n), .int .i64 D.x] 24)).2.facts
      go_wp2_with fail
      refine bodyPost_ret (v := .tuple #[.agg #[.bool false, .string ⟨#[]⟩, .int .i64 0], .int .i64 4]) (by simp [results, Tryz.results38, go_sem, r0, r1, r2, r3]) rfl ⟨?_, ?_⟩
      · rw [HADD.out.1, HADD.out.2, HL.out.1, HL.out.2, Dy.zero_v]
      · repeat (refine Below.setCell ?_ (by simp; omega) _)
        exact T1.1.1
  all_goals
    obtain ⟨X, hX⟩ : ∃ X, X = p.n * 2 ^ j := ⟨_, rfl⟩
    have HUP := Lib.hid (show upN p q = X by rw [upN_eq, ← HJ.out, hX])
    have hfp := fits_W HP.out.1
    have hfq := fits_W HQ.out.1
    have hXW : nd W X ≤ 4097 := by
      have h1 := nd_mul_pow (j := j) (odd_ne HP.out.2.1)
      rw [← hX] at h1
      have h2 := bits_131072' HP.out.1
      exact (nd_pow (b := 2) (c := W) (e := 64) (by omega) (by omega) W_two X 4097).1 (by omega)
    have KRp := Lib.hid (fun w => read_nat p.n w HP.out.1)
    have KRq := Lib.hid (fun w => read_nat q.n w HQ.out.1)
    have KS : Hid (∀ (A : Option Addr) (c : Nat) (W' : World), Row W' W'.heap.size A p.n (nd W p.n) → Calls Tryz.prog 61 #[.slice A (nd W p.n) c, .int .i64 (j : Nat)] W' (NumPost X W')) := Lib.hid fun A c W' h => by
      rw [hX]; exact Shl_c A c p.n j W'.heap.size W' (by omega) h (Nat.le_refl _)
    clear hX
    have L0 : ∀ W, TC w p.t q.t W → W.cell? ⟨w.heap.size, 0, none⟩ = some (.bool p.g) := fun W h => h.1.2.1.facts.2.1
    have L1 : ∀ W, TC w p.t q.t W → W.cell? ⟨w.heap.size, 1, none⟩ = some (.string (natS p.n)) := fun W h => h.1.2.1.facts.2.2.1
    have L2 : ∀ W, TC w p.t q.t W → W.cell? ⟨w.heap.size, 2, none⟩ = some (.int .i64 p.x) := fun W h => h.1.2.1.facts.2.2.2.1
    have L3 : ∀ W, TC w p.t q.t W → W.cell? ⟨w.heap.size + 1, 0, none⟩ = some (.bool q.g) := fun W h => h.1.2.2.facts.2.1
    have L4 : ∀ W, TC w p.t q.t W → W.cell? ⟨w.heap.size + 1, 1, none⟩ = some (.string (natS q.n)) := fun W h => h.1.2.2.facts.2.2.1
    have L5 : ∀ W, TC w p.t q.t W → W.cell? ⟨w.heap.size + 1, 2, none⟩ = some (.int .i64 q.x) := fun W h => h.1.2.2.facts.2.2.2.1
    go_wp2_with fail
    go_region_held3 (TC w p.t q.t) (first | assumption | exact TC.step (by assumption) (by assumption) | exact TC.drew (by assumption) | exact TC.drawn (by assumption) _)
      (first
        | (go_at_call 61; (refine (KS.out _ _ _ (by assumption)).mono ?_); rintro e wb hnp2; obtain ⟨A2, c2, rfl, hc2, hr2, hb8⟩ := hnp2.get)
        | (go_at_call 62; (with_reducible refine (KRp.out _).mono ?_); rintro e wa hnp1; obtain ⟨A1, c1, rfl, hc1, hr1, hb7⟩ := hnp1.get)
        | (go_at_call 62; (with_reducible refine (KRq.out _).mono ?_); rintro e wc hnp3; obtain ⟨A3, c3, rfl, hc3, hr3, hb9⟩ := hnp3.get))
    rename_i hHeld
    have hx2 := (hr2.below hb9).more hb9.size
    have HX2 := Lib.hid hx2
    have HY2 := Lib.hid hr3
    have T2 := hHeld
    clear hHeld T1 HT0 hr1 hr2 hr3 hx2 hc1 hc2 hc3 hnp1 hnp2 hnp3 hb7 hb8 hb9
    have KF : Hid (∀ (g : Bool) (N : Nat) (A : Option Addr) (c : Nat) (W' : World), nd W N ≤ 10000 → Row W' W'.heap.size A N (nd W N) → Bt.Tabs W' → Calls Tryz.prog 63 #[.bool g, .slice A (nd W N) c, .int .i64 q.x] W' (MkPost g N q.x W')) := Lib.hid fun g N A c W' h1 h2 h3 => DFit_c g N q.x A c W'.heap.size W' h1 (by have := HQ.out.2.2; omega) h2 (Nat.le_refl _) h3
    obtain ⟨p0, p1, p2, p3, p4, p5, p6⟩ := T2.1.2.1.facts
    obtain ⟨q0, q1, q2, q3, q4, q5, q6⟩ := T2.1.2.2.facts
    replace p1 : wc.cell? ⟨w.heap.size, 0, none⟩ = some (.bool p.g) := p1
    replace q1 : wc.cell? ⟨w.heap.size + 1, 0, none⟩ = some (.bool q.g) := q1
    replace HTB : Hid (∀ W, TD w p.t q.t W → Bt.Tabs W) := Lib.hid fun W h => tabs_of (HGG.out.below h.1.1 (Nat.le_refl _))
    clear L0 L1 L2 L3 L4 L5
    by_cases hg : p.g = q.g
    case' pos =>
      have HNW : Hid (nd W (X + q.n) ≤ 10000) := Lib.hid (Nat.le_trans (nd_addW (x := X) (y := q.n) (m := 4097) (by omega) (by omega)) (by omega))
      have HRES := Lib.hid (hi_same hg X HUP.out)
      go_wp2_with fail
      clear p0 p1 p2 p3 p4 p5 p6 q0 q1 q2 q3 q4 q5 q6
      have T3 : TD w p.t q.t wc.drew := T2.drew.td
      have KO := Lib.hid (Add_c A2 A3 c2 c3 X q.n _ wc.drew (by omega) (by omega) (HX2.out.drewN 1) (HY2.out.drewN 1) (Nat.le_refl _))
      have M0 : ∀ W, TD w p.t q.t W → W.cell? ⟨w.heap.size, 0, none⟩ = some (.bool p.g) := fun W h => h.1.2.1.facts.2.1
      have M3 : ∀ W, TD w p.t q.t W → W.cell? ⟨w.heap.size + 1, 0, none⟩ = some (.bool q.g) := fun W h => h.1.2.2.facts.2.1
      have M5 : ∀ W, TD w p.t q.t W → W.cell? ⟨w.heap.size + 1, 2, none⟩ = some (.int .i64 q.x) := fun W h => h.1.2.2.facts.2.2.2.1
      have M6 := fun W (h : TD w p.t q.t W) => h.cells.2.1
      have M7 := fun W (h : TD w p.t q.t W) => h.cells.2.2.1
      have M8 := fun W (h : TD w p.t q.t W) => h.cells.2.2.2.1
      have M9 := fun W (h : TD w p.t q.t W) => h.cells.2.2.2.2.1
      have M10 := fun W (h : TD w p.t q.t W) => h.cells.2.2.2.2.2.1
      have M11 := fun W (h : TD w p.t q.t W) => h.cells.2.2.2.2.2.2
      go_region_held3 (TD w p.t q.t) (first | assumption | exact TD.step (by assumption) (by assumption) | exact TD.put (by assumption) _ _ _ | exact TD.drew (by assumption) | exact TD.drawn (by assumption) _)
        (first
          | (go_at_call 64; (refine KO.out.mono ?_); rintro e wd hnp4; obtain ⟨A4, c4, rfl, hc4, hr4, hb10⟩ := hnp4.get)
          | (go_at_call 63; (refine (KF.out _ _ _ _ _ HNW.out (by assumption) (HTB.out _ (by assumption))).mono ?_); rintro e we ⟨rfl, hb11⟩; have HSV := Lib.hid (TD.step (a := p.t) (b := q.t) (w := w) (by assumption) hb11); unfold Dy.v))
      obtain ⟨r0, r1, r2, r3, r4, r5, r6⟩ := HSV.out.cells
      have hfin := below_put HSV.out.1.1 (show w.heap.size ≤ w.heap.size + 2 by omega)
      clear T3 M0 M3 M5 M6 M7 M8 M9 M10 M11
      go_wp2_with fail
      refine bodyPost_ret (v := .tuple #[(mkD q.g (X + q.n) q.x).v, .int .i64 (mkE (X + q.n) q.x)]) (by simp [results, Tryz.results38, go_sem, r0, r1, r2, r3, Dy.v]) rfl ⟨?_, ?_⟩
      · rw [HADD.out.1, HADD.out.2, HRES.out.1, HRES.out.2, hg]
      · exact hfin _ _ _
    case' neg =>
      have hgb : (p.g == q.g) = false := beq_eq_false_iff_ne.2 hg
      have KC := Lib.hid (Cmp_c A2 A3 c2 c3 X q.n _ wc (by omega) (by omega) HX2.out HY2.out)
      go_wp2_with fail
      refine KC.out.mono ?_
      rintro e w6 ⟨rfl, nn, rfl⟩
      clear p0 p1 p2 p3 p4 p5 p6 q0 q1 q2 q3 q4 q5 q6
      by_cases hl : X < q.n
      case' pos =>
        have hcn := cmp_neg hl
        have HRES := Lib.hid (hi_lt hg X HUP.out hl)
        have HNW : Hid (nd W (q.n - X) ≤ 10000) := Lib.hid (Nat.le_trans (nd_mono W2 (Nat.sub_le _ _)) (by omega))
        generalize cmpN X q.n = cc at *
        go_wp2_with fail
        have T3 : TD w p.t q.t (wc.drewN nn).drew := (T2.drawn nn).drew.td
        have KO := Lib.hid (Sub_c A3 A2 c3 c2 q.n X _ (wc.drewN nn).drew (Nat.le_of_lt hl) (by omega) (HY2.out.drewN (nn + 1)) (HX2.out.drewN (nn + 1)) (Nat.le_refl _))
        have M0 : ∀ W, TD w p.t q.t W → W.cell? ⟨w.heap.size, 0, none⟩ = some (.bool p.g) := fun W h => h.1.2.1.facts.2.1
        have M3 : ∀ W, TD w p.t q.t W → W.cell? ⟨w.heap.size + 1, 0, none⟩ = some (.bool q.g) := fun W h => h.1.2.2.facts.2.1
        have M5 : ∀ W, TD w p.t q.t W → W.cell? ⟨w.heap.size + 1, 2, none⟩ = some (.int .i64 q.x) := fun W h => h.1.2.2.facts.2.2.2.1
        have M6 := fun W (h : TD w p.t q.t W) => h.cells.2.1
        have M7 := fun W (h : TD w p.t q.t W) => h.cells.2.2.1
        have M8 := fun W (h : TD w p.t q.t W) => h.cells.2.2.2.1
        have M9 := fun W (h : TD w p.t q.t W) => h.cells.2.2.2.2.1
        have M10 := fun W (h : TD w p.t q.t W) => h.cells.2.2.2.2.2.1
        have M11 := fun W (h : TD w p.t q.t W) => h.cells.2.2.2.2.2.2
        go_region_held3 (TD w p.t q.t) (first | assumption | exact TD.step (by assumption) (by assumption) | exact TD.put (by assumption) _ _ _ | exact TD.drew (by assumption) | exact TD.drawn (by assumption) _)
          (first
            | (go_at_call 66; (refine KO.out.mono ?_); rintro e wd hnp4; obtain ⟨A4, c4, rfl, hc4, hr4, hb10⟩ := hnp4.get)
            | (go_at_call 63; (refine (KF.out _ _ _ _ _ HNW.out (by assumption) (HTB.out _ (by assumption))).mono ?_); rintro e we ⟨rfl, hb11⟩; have HSV := Lib.hid (TD.step (a := p.t) (b := q.t) (w := w) (by assumption) hb11); unfold Dy.v))
        obtain ⟨r0, r1, r2, r3, r4, r5, r6⟩ := HSV.out.cells
        have hfin := below_put HSV.out.1.1 (show w.heap.size ≤ w.heap.size + 2 by omega)
        clear T3 M0 M3 M5 M6 M7 M8 M9 M10 M11
        go_wp2_with fail
        refine bodyPost_ret (v := .tuple #[(mkD q.g (q.n - X) q.x).v, .int .i64 (mkE (q.n - X) q.x)]) (by simp [results, Tryz.results38, go_sem, r0, r1, r2, r3, Dy.v]) rfl ⟨?_, ?_⟩
        · rw [HADD.out.1, HADD.out.2, HRES.out.1, HRES.out.2]
        · exact hfin _ _ _
      case' neg =>
        have hcn := cmp_pos (Nat.le_of_not_lt hl)
        have HRES := Lib.hid (hi_ge hg X HUP.out hl)
        have HNW : Hid (nd W (X - q.n) ≤ 10000) := Lib.hid (Nat.le_trans (nd_mono W2 (Nat.sub_le _ _)) (by omega))
        generalize cmpN X q.n = cc at *
        go_wp2_with fail
        have T3 : TD w p.t q.t (wc.drewN nn).drew := (T2.drawn nn).drew.td
        have KO := Lib.hid (Sub_c A2 A3 c2 c3 X q.n _ (wc.drewN nn).drew (Nat.le_of_not_lt hl) (by omega) (HX2.out.drewN (nn + 1)) (HY2.out.drewN (nn + 1)) (Nat.le_refl _))
        have M0 : ∀ W, TD w p.t q.t W → W.cell? ⟨w.heap.size, 0, none⟩ = some (.bool p.g) := fun W h => h.1.2.1.facts.2.1
        have M3 : ∀ W, TD w p.t q.t W → W.cell? ⟨w.heap.size + 1, 0, none⟩ = some (.bool q.g) := fun W h => h.1.2.2.facts.2.1
        have M5 : ∀ W, TD w p.t q.t W → W.cell? ⟨w.heap.size + 1, 2, none⟩ = some (.int .i64 q.x) := fun W h => h.1.2.2.facts.2.2.2.1
        have M6 := fun W (h : TD w p.t q.t W) => h.cells.2.1
        have M7 := fun W (h : TD w p.t q.t W) => h.cells.2.2.1
        have M8 := fun W (h : TD w p.t q.t W) => h.cells.2.2.2.1
        have M9 := fun W (h : TD w p.t q.t W) => h.cells.2.2.2.2.1
        have M10 := fun W (h : TD w p.t q.t W) => h.cells.2.2.2.2.2.1
        have M11 := fun W (h : TD w p.t q.t W) => h.cells.2.2.2.2.2.2
        go_region_held3 (TD w p.t q.t) (first | assumption | exact TD.step (by assumption) (by assumption) | exact TD.put (by assumption) _ _ _ | exact TD.drew (by assumption) | exact TD.drawn (by assumption) _)
          (first
            | (go_at_call 66; (refine KO.out.mono ?_); rintro e wd hnp4; obtain ⟨A4, c4, rfl, hc4, hr4, hb10⟩ := hnp4.get)
            | (go_at_call 63; (refine (KF.out _ _ _ _ _ HNW.out (by assumption) (HTB.out _ (by assumption))).mono ?_); rintro e we ⟨rfl, hb11⟩; have HSV := Lib.hid (TD.step (a := p.t) (b := q.t) (w := w) (by assumption) hb11); unfold Dy.v))
        obtain ⟨r0, r1, r2, r3, r4, r5, r6⟩ := HSV.out.cells
        have hfin := below_put HSV.out.1.1 (show w.heap.size ≤ w.heap.size + 2 by omega)
        clear T3 M0 M3 M5 M6 M7 M8 M9 M10 M11
        go_wp2_with fail
        refine bodyPost_ret (v := .tuple #[(mkD p.g (X - q.n) q.x).v, .int .i64 (mkE (X - q.n) q.x)]) (by simp [results, Tryz.results38, go_sem, r0, r1, r2, r3, Dy.v]) rfl ⟨?_, ?_⟩
        · rw [HADD.out.1, HADD.out.2, HRES.out.1, HRES.out.2]
        · exact hfin _ _ _
end Go.Proofs.YtamcnnocjelcjaaGreatDoor
namespace Go.Proofs.YtamcnnocjelcjaaGreatDoor
open Go Go.RowKit Nt
set_option maxRecDepth 100000 in
set_option maxHeartbeats 2000000 in
theorem rAdd3_zl (b : Dy) (w : World) (g : Bool) (x : Int) :
    Calls Tryz.prog 53 #[.agg #[.bool g, .string ⟨#[]⟩, .int .i64 x], .agg #[.bool b.g, .string (natS b.n), .int .i64 b.x]] w fun e w' => e = .returned (.tuple #[.agg #[.bool b.g, .string (natS b.n), .int .i64 b.x], .int .i64 0]) ∧ Below w.heap.size w w' := by
  have T0 := TC.start w ⟨g, ⟨#[]⟩, x⟩ b.t
  unfold Dy.t at T0
  obtain ⟨r0, r1, r2, r3, r4, r5, r6⟩ := T0.2.facts
  go_enter Tryz.func53, Tryz.ntmps53
  go_wp2_with fail
  refine bodyPost_ret (v := .tuple #[.agg #[.bool b.g, .string (natS b.n), .int .i64 b.x], .int .i64 0]) (by simp [results, Tryz.results53, go_sem, r0, r1, r2, r3]) rfl ⟨rfl, ?_⟩
  repeat (refine Below.setCell ?_ (by simp; omega) _)
  first
    | exact T0.1.1
    | exact (((Below.refl _ _).alloc (Nat.le_refl _) _).alloc (by simp) _).alloc (by simp; omega) _
set_option maxRecDepth 100000 in
set_option maxHeartbeats 2000000 in
theorem rAdd3_zr (a : Dy) (w : World) (ha : a.n ≠ 0) (g : Bool) (x : Int) :
    Calls Tryz.prog 53 #[.agg #[.bool a.g, .string (natS a.n), .int .i64 a.x], .agg #[.bool g, .string ⟨#[]⟩, .int .i64 x]] w fun e w' => e = .returned (.tuple #[.agg #[.bool a.g, .string (natS a.n), .int .i64 a.x], .int .i64 0]) ∧ Below w.heap.size w w' := by
  have T0 := TC.start w a.t ⟨g, ⟨#[]⟩, x⟩
  unfold Dy.t at T0
  have hE := natS_full ha
  have hE2 := natS_full2 ha
  clear ha
  go_enter Tryz.func53, Tryz.ntmps53
  go_wp2_with fail
  refine bodyPost_ret (v := .tuple #[.agg #[.bool a.g, .string (natS a.n), .int .i64 a.x], .int .i64 0]) (by simp [results, Tryz.results53, go_sem]) rfl ⟨rfl, ?_⟩
  repeat (refine Below.setCell ?_ (by simp; omega) _)
  first
    | exact T0.1.1
    | exact (((Below.refl _ _).alloc (Nat.le_refl _) _).alloc (by simp) _).alloc (by simp; omega) _
theorem nd_add256 {x y m : Nat} (hx : nd 256 x ≤ m) (hy : nd 256 y ≤ m) : nd 256 (x + y) ≤ m + 1 := by
  refine nd_le (by omega) ?_
  have h1 := (lt_pow_iff (b := 256) (by omega) m x).2 hx
  have h2 := (lt_pow_iff (b := 256) (by omega) m y).2 hy
  rw [Nat.pow_succ]; omega
set_option maxRecDepth 100000 in
set_option maxHeartbeats 4000000 in
theorem rAdd3_ge (p q : Dy) (w : World) (hp : p.Num) (hq : q.Num) (hle : q.x ≤ p.x) :
    Calls Tryz.prog 53 #[.agg #[.bool p.g, .string (natS p.n), .int .i64 p.x], .agg #[.bool q.g, .string (natS q.n), .int .i64 q.x]] w fun e w' => e = .returned (.tuple #[(hiD p q).v, .int .i64 (hiE p q)]) ∧ Below w.heap.size w w' := by
  have T0 := TC.start w p.t q.t
  obtain ⟨j, hj⟩ : ∃ j, j = (p.x - q.x).toNat := ⟨_, rfl⟩
  have hpx := hp.2.2
  have hqx := hq.2.2
  have hjx : p.x - q.x = (j : Int) := by omega
  have hEp := natS_full (odd_ne hp.2.1)
  have hEp2 := natS_full2 (odd_ne hp.2.1)
  have hEq := natS_full (odd_ne hq.2.1)
  have hEq2 := natS_full2 (odd_ne hq.2.1)
  have HP := Lib.hid hp
  have HQ := Lib.hid hq
  have HJ := Lib.hid hj
  have hlt : ¬ p.x < q.x := by omega
  clear hp hq hj hle
  unfold Dy.t at T0
  obtain ⟨p0, p1, p2, p3, p4, p5, p6⟩ := T0.1.2.1.facts
  obtain ⟨q0, q1, q2, q3, q4, q5, q6⟩ := T0.1.2.2.facts
  obtain ⟨r0, r1, r2, r3, r4, r5, r6⟩ := T0.2.facts
  by_cases hlong : 131080 < j
  · have HL := Lib.hid (hi_long HP.out HQ.out (by omega))
    go_enter Tryz.func53, Tryz.ntmps53
    go_wp2_with fail
    refine bodyPost_ret (v := .tuple #[.agg #[.bool false, .string ⟨#[]⟩, .int .i64 0], .int .i64 4]) (by simp [results, Tryz.results53, go_sem, r0, r1, r2, r3]) rfl ⟨?_, ?_⟩
    · rw [HL.out.1, HL.out.2, Dy.zero_v]
    · repeat (refine Below.setCell ?_ (by simp; omega) _)
      first
        | exact T0.1.1
        | exact (((Below.refl _ _).alloc (Nat.le_refl _) _).alloc (by simp) _).alloc (by simp; omega) _
  · obtain ⟨X, hX⟩ : ∃ X, X = p.n * 2 ^ j := ⟨_, rfl⟩
    have HUP := Lib.hid (show upN p q = X by rw [upN_eq, ← HJ.out, hX])
    have hfp : nd 256 p.n ≤ 16384 := HP.out.1
    have hfq : nd 256 q.n ≤ 16384 := HQ.out.1
    have hXW : nd 256 X ≤ 40000 := by
      have h1 := nd_mul_pow (j := j) (odd_ne HP.out.2.1)
      rw [← hX] at h1
      have h2 := bits_131072' HP.out.1
      exact (bits_le X 40000).1 (by omega)
    have KRp := Lib.hid (fun w => rOf3_c p.n w (by omega))
    have KRq := Lib.hid (fun w => rOf3_c q.n w (by omega))
    have KS : Hid (∀ (B : Nat) (A : Option Addr) (c : Nat) (W' : World), Own W' B 3 .i64 (.slice A (nd 256 p.n) c) (dl 256 p.n (nd 256 p.n)) → Calls Tryz.prog 86 #[.slice A (nd 256 p.n) c, .int .i64 (j : Nat)] W' (BigP X W')) := Lib.hid fun B A c W' h => by
      rw [hX]; exact rShifted3_c p.n j B A c W' (by omega) (by omega) h
    clear hX
    have T1 : TC w p.t q.t _ := T0
    have L1 : ∀ W, TC w p.t q.t W → W.cell? ⟨w.heap.size, 1, none⟩ = some (.string (natS p.n)) := fun W h => h.1.2.1.facts.2.2.1
    have L4 : ∀ W, TC w p.t q.t W → W.cell? ⟨w.heap.size + 1, 1, none⟩ = some (.string (natS q.n)) := fun W h => h.1.2.2.facts.2.2.1
    go_enter Tryz.func53, Tryz.ntmps53
    go_wp2_with fail
    go_region_held3 (TC w p.t q.t) (first | assumption | exact TC.step (by assumption) (by assumption) | exact TC.drew (by assumption) | exact TC.drawn (by assumption) _)
      (first
        | (go_at_call 86; (refine (KS.out _ _ _ _ (by assumption)).mono ?_); rintro e wb ⟨A2, c2, rfl, hown2, hb8⟩)
        | (go_at_call 87; (with_reducible refine (KRp.out _).mono ?_); rintro e wa ⟨v1, rfl, hown1, hb7⟩; obtain ⟨A1, c1, rfl, hc1⟩ := hown1.len; rw [dl_length] at hown1 hc1 ⊢)
        | (go_at_call 87; (with_reducible refine (KRq.out _).mono ?_); rintro e wc ⟨v3, rfl, hown3, hb9⟩; obtain ⟨A3, c3, rfl, hc3⟩ := hown3.len; rw [dl_length] at hown3 hc3 ⊢))
    rename_i hHeld
    have HX2 := Lib.hid (hown2.whole hb9)
    have HY2 := Lib.hid hown3
    have T2 := hHeld
    clear hHeld T1 T0 hown1 hown2 hown3 hc1 hc3 hb7 hb8 hb9 L1 L4 p0 p1 p2 p3 p4 p5 p6 q0 q1 q2 q3 q4 q5 q6 r0 r1 r2 r3 r4 r5 r6
    have KF : Hid (∀ (g : Bool) (N : Nat) (B : Nat) (A : Option Addr) (c : Nat) (W' : World), nd 256 N ≤ 100000 → Own W' B 3 .i64 (.slice A (nd 256 N) c) (dl 256 N (nd 256 N)) → Calls Tryz.prog 88 #[.bool g, .slice A (nd 256 N) c, .int .i64 q.x] W' (MkPost g N q.x W')) := Lib.hid fun g N B A c W' h1 h2 => rFit3_c g N q.x B A c W' h1 (by have := HQ.out.2.2; omega) h2
    obtain ⟨p0, p1, p2, p3, p4, p5, p6⟩ := T2.1.2.1.facts
    obtain ⟨q0, q1, q2, q3, q4, q5, q6⟩ := T2.1.2.2.facts
    replace p1 : wc.cell? ⟨w.heap.size, 0, none⟩ = some (.bool p.g) := p1
    replace q1 : wc.cell? ⟨w.heap.size + 1, 0, none⟩ = some (.bool q.g) := q1
    by_cases hg : p.g = q.g
    · have HNW : Hid (nd 256 (X + q.n) ≤ 100000) := Lib.hid (Nat.le_trans (nd_add256 (x := X) (y := q.n) (m := 40000) (by omega) (by omega)) (by omega))
      have HRES := Lib.hid (hi_same hg X HUP.out)
      go_wp2_with fail
      clear p0 p1 p2 p3 p4 p5 p6 q0 q1 q2 q3 q4 q5 q6
      have T3 : TD w p.t q.t wc.drew := T2.drew.td
      have KO := Lib.hid (rPlus3_c X q.n _ _ A2 A3 c2 c3 wc.drew (by omega) (by omega) (HX2.out.drewN 1) (HY2.out.drewN 1))
      have M0 : ∀ W, TD w p.t q.t W → W.cell? ⟨w.heap.size, 0, none⟩ = some (.bool p.g) := fun W h => h.1.2.1.facts.2.1
      have M3 : ∀ W, TD w p.t q.t W → W.cell? ⟨w.heap.size + 1, 0, none⟩ = some (.bool q.g) := fun W h => h.1.2.2.facts.2.1
      have M5 : ∀ W, TD w p.t q.t W → W.cell? ⟨w.heap.size + 1, 2, none⟩ = some (.int .i64 q.x) := fun W h => h.1.2.2.facts.2.2.2.1
      have M6 := fun W (h : TD w p.t q.t W) => h.cells.2.1
      have M7 := fun W (h : TD w p.t q.t W) => h.cells.2.2.1
      have M8 := fun W (h : TD w p.t q.t W) => h.cells.2.2.2.1
      have M9 := fun W (h : TD w p.t q.t W) => h.cells.2.2.2.2.1
      have M10 := fun W (h : TD w p.t q.t W) => h.cells.2.2.2.2.2.1
      have M11 := fun W (h : TD w p.t q.t W) => h.cells.2.2.2.2.2.2
      go_region_held3 (TD w p.t q.t) (first | assumption | exact TD.step (by assumption) (by assumption) | exact TD.put (by assumption) _ _ _ | exact TD.drew (by assumption) | exact TD.drawn (by assumption) _)
        (first
          | (go_at_call 89; (refine KO.out.mono ?_); rintro e wd ⟨A4, c4, rfl, hown4, hb10⟩)
          | (go_at_call 88; (refine (KF.out _ _ _ _ _ _ HNW.out (by assumption)).mono ?_); rintro e we ⟨rfl, hb11⟩; have HSV := Lib.hid (TD.step (a := p.t) (b := q.t) (w := w) (by assumption) hb11); unfold Dy.v))
      obtain ⟨r0, r1, r2, r3, r4, r5, r6⟩ := HSV.out.cells
      have hfin := below_put HSV.out.1.1 (show w.heap.size ≤ w.heap.size + 2 by omega)
      clear T3 M0 M3 M5 M6 M7 M8 M9 M10 M11
      go_wp2_with fail
      refine bodyPost_ret (v := .tuple #[(mkD q.g (X + q.n) q.x).v, .int .i64 (mkE (X + q.n) q.x)]) (by simp [results, Tryz.results53, go_sem, r0, r1, r2, r3, Dy.v]) rfl ⟨?_, ?_⟩
      · rw [HRES.out.1, HRES.out.2, hg]
      · exact hfin _ _ _
    · have hgb : (p.g == q.g) = false := beq_eq_false_iff_ne.2 hg
      have KC := Lib.hid (rCmp3_c X q.n _ _ A2 A3 c2 c3 wc (by omega) (by omega) HX2.out HY2.out)
      go_wp2_with fail
      refine KC.out.mono ?_
      rintro e w6 ⟨rfl, nn, rfl⟩
      clear p0 p1 p2 p3 p4 p5 p6 q0 q1 q2 q3 q4 q5 q6
      by_cases hl : X < q.n
      · have hcn : ¬ (0 : Int) ≤ cmpN X q.n := by rw [cmpN_lt hl]; decide
        have HRES := Lib.hid (hi_lt hg X HUP.out hl)
        have HNW : Hid (nd 256 (q.n - X) ≤ 100000) := Lib.hid (Nat.le_trans (nd_mono (by omega) (Nat.sub_le _ _)) (by omega))
        generalize cmpN X q.n = cc at *
        go_wp2_with fail
        have T3 : TD w p.t q.t (wc.drewN nn).drew := (T2.drawn nn).drew.td
        have KO := Lib.hid (rMinus3_c q.n X _ _ A3 A2 c3 c2 (wc.drewN nn).drew (Nat.le_of_lt hl) (by omega) (HY2.out.drewN (nn + 1)) (HX2.out.drewN (nn + 1)))
        have M0 : ∀ W, TD w p.t q.t W → W.cell? ⟨w.heap.size, 0, none⟩ = some (.bool p.g) := fun W h => h.1.2.1.facts.2.1
        have M3 : ∀ W, TD w p.t q.t W → W.cell? ⟨w.heap.size + 1, 0, none⟩ = some (.bool q.g) := fun W h => h.1.2.2.facts.2.1
        have M5 : ∀ W, TD w p.t q.t W → W.cell? ⟨w.heap.size + 1, 2, none⟩ = some (.int .i64 q.x) := fun W h => h.1.2.2.facts.2.2.2.1
        have M6 := fun W (h : TD w p.t q.t W) => h.cells.2.1
        have M7 := fun W (h : TD w p.t q.t W) => h.cells.2.2.1
        have M8 := fun W (h : TD w p.t q.t W) => h.cells.2.2.2.1
        have M9 := fun W (h : TD w p.t q.t W) => h.cells.2.2.2.2.1
        have M10 := fun W (h : TD w p.t q.t W) => h.cells.2.2.2.2.2.1
        have M11 := fun W (h : TD w p.t q.t W) => h.cells.2.2.2.2.2.2
        go_region_held3 (TD w p.t q.t) (first | assumption | exact TD.step (by assumption) (by assumption) | exact TD.put (by assumption) _ _ _ | exact TD.drew (by assumption) | exact TD.drawn (by assumption) _)
          (first
            | (go_at_call 91; (refine KO.out.mono ?_); rintro e wd ⟨A4, c4, rfl, hown4, hb10⟩)
            | (go_at_call 88; (refine (KF.out _ _ _ _ _ _ HNW.out (by assumption)).mono ?_); rintro e we ⟨rfl, hb11⟩; have HSV := Lib.hid (TD.step (a := p.t) (b := q.t) (w := w) (by assumption) hb11); unfold Dy.v))
        obtain ⟨r0, r1, r2, r3, r4, r5, r6⟩ := HSV.out.cells
        have hfin := below_put HSV.out.1.1 (show w.heap.size ≤ w.heap.size + 2 by omega)
        clear T3 M0 M3 M5 M6 M7 M8 M9 M10 M11
        go_wp2_with fail
        refine bodyPost_ret (v := .tuple #[(mkD q.g (q.n - X) q.x).v, .int .i64 (mkE (q.n - X) q.x)]) (by simp [results, Tryz.results53, go_sem, r0, r1, r2, r3, Dy.v]) rfl ⟨?_, ?_⟩
        · rw [HRES.out.1, HRES.out.2]
        · exact hfin _ _ _
      · have hcn : (0 : Int) ≤ cmpN X q.n := by
          rcases Nat.eq_or_lt_of_le (Nat.le_of_not_lt hl) with h | h
          · rw [h, cmpN_eq]; decide
          · rw [cmpN_gt h]; decide
        have HRES := Lib.hid (hi_ge hg X HUP.out hl)
        have HNW : Hid (nd 256 (X - q.n) ≤ 100000) := Lib.hid (Nat.le_trans (nd_mono (by omega) (Nat.sub_le _ _)) (by omega))
        generalize cmpN X q.n = cc at *
        go_wp2_with fail
        have T3 : TD w p.t q.t (wc.drewN nn).drew := (T2.drawn nn).drew.td
        have KO := Lib.hid (rMinus3_c X q.n _ _ A2 A3 c2 c3 (wc.drewN nn).drew (Nat.le_of_not_lt hl) (by omega) (HX2.out.drewN (nn + 1)) (HY2.out.drewN (nn + 1)))
        have M0 : ∀ W, TD w p.t q.t W → W.cell? ⟨w.heap.size, 0, none⟩ = some (.bool p.g) := fun W h => h.1.2.1.facts.2.1
        have M3 : ∀ W, TD w p.t q.t W → W.cell? ⟨w.heap.size + 1, 0, none⟩ = some (.bool q.g) := fun W h => h.1.2.2.facts.2.1
        have M5 : ∀ W, TD w p.t q.t W → W.cell? ⟨w.heap.size + 1, 2, none⟩ = some (.int .i64 q.x) := fun W h => h.1.2.2.facts.2.2.2.1
        have M6 := fun W (h : TD w p.t q.t W) => h.cells.2.1
        have M7 := fun W (h : TD w p.t q.t W) => h.cells.2.2.1
        have M8 := fun W (h : TD w p.t q.t W) => h.cells.2.2.2.1
        have M9 := fun W (h : TD w p.t q.t W) => h.cells.2.2.2.2.1
        have M10 := fun W (h : TD w p.t q.t W) => h.cells.2.2.2.2.2.1
        have M11 := fun W (h : TD w p.t q.t W) => h.cells.2.2.2.2.2.2
        go_region_held3 (TD w p.t q.t) (first | assumption | exact TD.step (by assumption) (by assumption) | exact TD.put (by assumption) _ _ _ | exact TD.drew (by assumption) | exact TD.drawn (by assumption) _)
          (first
            | (go_at_call 91; (refine KO.out.mono ?_); rintro e wd ⟨A4, c4, rfl, hown4, hb10⟩)
            | (go_at_call 88; (refine (KF.out _ _ _ _ _ _ HNW.out (by assumption)).mono ?_); rintro e we ⟨rfl, hb11⟩; have HSV := Lib.hid (TD.step (a := p.t) (b := q.t) (w := w) (by assumption) hb11); unfold Dy.v))
        obtain ⟨r0, r1, r2, r3, r4, r5, r6⟩ := HSV.out.cells
        have hfin := below_put HSV.out.1.1 (show w.heap.size ≤ w.heap.size + 2 by omega)
        clear T3 M0 M3 M5 M6 M7 M8 M9 M10 M11
        go_wp2_with fail
        refine bodyPost_ret (v := .tuple #[(mkD p.g (X - q.n) q.x).v, .int .i64 (mkE (X - q.n) q.x)]) (by simp [results, Tryz.results53, go_sem, r0, r1, r2, r3, Dy.v]) rfl ⟨?_, ?_⟩
        · rw [HRES.out.1, HRES.out.2]
        · exact hfin _ _ _
end Go.Proofs.YtamcnnocjelcjaaGreatDoor
namespace Go.Proofs.YtamcnnocjelcjaaGreatDoor
open Go Go.RowKit Nt
def AddPost (a b : Dy) (w : World) (e : Ending) (w' : World) : Prop := e = .returned (.tuple #[(addD a b).v, .int .i64 (addE a b)]) ∧ Below w.heap.size w w'
theorem DAdd_c (a b : Dy) (w : World) (ha : a.Ok) (hb : b.Ok) (hG : Globs glT w) :
    Calls Tryz.prog 38 #[.agg #[.bool a.g, .string (natS a.n), .int .i64 a.x], .agg #[.bool b.g, .string (natS b.n), .int .i64 b.x]] w (AddPost a b w) := by
  unfold AddPost
  rcases ha with rfl | ha
  · rw [(add_zl (a := Dy.zero) (b := b) rfl).1, (add_zl (a := Dy.zero) (b := b) rfl).2]
    show Calls _ _ #[.agg #[.bool false, .string (natS 0), .int .i64 0], _] _ _
    rw [natS_zero]; exact DAdd_zl b w hb
  · rcases hb with rfl | hb
    · rw [(add_zr (a := a) (b := Dy.zero) (odd_ne ha.2.1) rfl).1, (add_zr (a := a) (b := Dy.zero) (odd_ne ha.2.1) rfl).2]
      show Calls _ _ #[_, .agg #[.bool false, .string (natS 0), .int .i64 0]] _ _
      rw [natS_zero]; exact DAdd_zr a w ha
    · exact DAdd_num a b w ha hb hG
set_option maxRecDepth 100000 in
set_option maxHeartbeats 2000000 in
theorem rAdd3_swap (a b : Dy) (w : World) (ha : a.Num) (hb : b.Num) (hlt : a.x < b.x) :
    Calls Tryz.prog 53 #[.agg #[.bool a.g, .string (natS a.n), .int .i64 a.x], .agg #[.bool b.g, .string (natS b.n), .int .i64 b.x]] w fun e w' => e = .returned (.tuple #[(hiD b a).v, .int .i64 (hiE b a)]) ∧ Below w.heap.size w w' := by
  have K := Lib.hid (fun w => rAdd3_ge b a w hb ha (by omega))
  have hEp := natS_full (odd_ne ha.2.1)
  have hEp2 := natS_full2 (odd_ne ha.2.1)
  have hEq := natS_full (odd_ne hb.2.1)
  have hEq2 := natS_full2 (odd_ne hb.2.1)
  have T0 := TC.start w a.t b.t
  unfold Dy.t at T0
  obtain ⟨p0, p1, p2, p3, p4, p5, p6⟩ := T0.1.2.1.facts
  obtain ⟨q0, q1, q2, q3, q4, q5, q6⟩ := T0.1.2.2.facts
  clear ha hb
  generalize hiD b a = D at *
  generalize hiE b a = E at *
  go_enter Tryz.func53, Tryz.ntmps53
  go_wp2_with fail
  refine (K.out _).mono ?_
  rintro e w1 ⟨rfl, hb⟩
  replace T0 := T0.step hb
  obtain ⟨r0, r1, r2, r3, r4, r5, r6⟩ := T0.2.facts
  unfold Dy.v
  clear hb p0 p1 p2 p3 p4 p5 p6 q0 q1 q2 q3 q4 q5 q6
  go_wp2_with fail
  refine bodyPost_ret (v := .tuple #[D.v, .int .i64 E]) (by simp [results, Tryz.results53, go_sem, r0, r1, r2, r3, Dy.v]) rfl ⟨rfl, ?_⟩
  exact T0.fin _ _ _
theorem rAdd3_c (a b : Dy) (w : World) (ha : a.Ok) (hb : b.Ok) :
    Calls Tryz.prog 53 #[.agg #[.bool a.g, .string (natS a.n), .int .i64 a.x], .agg #[.bool b.g, .string (natS b.n), .int .i64 b.x]] w (AddPost a b w) := by
  unfold AddPost
  rcases ha with rfl | ha
  · rw [(add_zl (a := Dy.zero) (b := b) rfl).1, (add_zl (a := Dy.zero) (b := b) rfl).2]
    show Calls _ _ #[.agg #[.bool false, .string (natS 0), .int .i64 0], _] _ _
    rw [natS_zero]; exact rAdd3_zl b w false 0
  · rcases hb with rfl | hb
    · rw [(add_zr (a := a) (b := Dy.zero) (odd_ne ha.2.1) rfl).1, (add_zr (a := a) (b := Dy.zero) (odd_ne ha.2.1) rfl).2]
      show Calls _ _ #[_, .agg #[.bool false, .string (natS 0), .int .i64 0]] _ _
      rw [natS_zero]; exact rAdd3_zr a w (odd_ne ha.2.1) false 0
    · by_cases h : a.x < b.x
      · rw [(add_lt (odd_ne ha.2.1) (odd_ne hb.2.1) h).1, (add_lt (odd_ne ha.2.1) (odd_ne hb.2.1) h).2]
        exact rAdd3_swap a b w ha hb h
      · rw [(add_ge (odd_ne ha.2.1) (odd_ne hb.2.1) h).1, (add_ge (odd_ne ha.2.1) (odd_ne hb.2.1) h).2]
        exact rAdd3_ge a b w ha hb (by omega)
def negD (d : Dy) : Dy := if d.n = 0 then d else ⟨!d.g, d.n, d.x⟩
theorem negD_zero : negD Dy.zero = Dy.zero := by unfold negD; exact if_pos rfl
theorem negD_num {d : Dy} (h : d.n ≠ 0) : negD d = ⟨!d.g, d.n, d.x⟩ := by unfold negD; exact if_neg h
theorem negD_Ok {d : Dy} (h : d.Ok) : (negD d).Ok := by
  rcases h with rfl | h
  · rw [negD_zero]; exact Or.inl rfl
  · rw [negD_num (odd_ne h.2.1)]; exact Or.inr h
theorem DNeg_c (d : Dy) (w : World) (h : d.Ok) : Calls Tryz.prog 22 #[.agg #[.bool d.g, .string (natS d.n), .int .i64 d.x]] w fun e w' => e = .returned ((negD d).v) ∧ Below w.heap.size w w' := by
  rcases h with rfl | h
  · rw [negD_zero, Dy.zero_v]
    show Calls _ _ #[.agg #[.bool false, .string (natS 0), .int .i64 0]] _ _
    rw [natS_zero]; exact DNeg_zero w
  · rw [negD_num (odd_ne h.2.1)]
    exact DNeg_num d.g d.n d.x w h.1 h.2.1 h.2.2.1 h.2.2.2
theorem rNegD3_c (d : Dy) (w : World) (h : d.Ok) : Calls Tryz.prog 30 #[.agg #[.bool d.g, .string (natS d.n), .int .i64 d.x]] w fun e w' => e = .returned ((negD d).v) ∧ Below w.heap.size w w' := by
  rcases h with rfl | h
  · rw [negD_zero, Dy.zero_v]
    show Calls _ _ #[.agg #[.bool false, .string (natS 0), .int .i64 0]] _ _
    rw [natS_zero]; exact rNeg3_zero w
  · rw [negD_num (odd_ne h.2.1)]
    exact rNeg3_num d.g d.n d.x w (odd_ne h.2.1)
end Go.Proofs.YtamcnnocjelcjaaGreatDoor
namespace Go.Proofs.YtamcnnocjelcjaaGreatDoor
open Go Go.RowKit Nt
set_option maxRecDepth 100000 in
set_option maxHeartbeats 2000000 in
theorem DSub_c (a b : Dy) (w : World) (ha : a.Ok) (hb : b.Ok) (hG : Globs glT w) :
    Calls Tryz.prog 71 #[.agg #[.bool a.g, .string (natS a.n), .int .i64 a.x], .agg #[.bool b.g, .string (natS b.n), .int .i64 b.x]] w (AddPost a (negD b) w) := by
  have KA := Lib.hid (fun W T A hA => all_ok2 a b ha hb W T A hA)
  have T0 := TC.start w a.t b.t
  have KN := Lib.hid (fun w => DNeg_c b w hb)
  have KD := Lib.hid (fun w hG => DAdd_c a (negD b) w ha (negD_Ok hb) hG)
  have HG := Lib.hid (fun W (h : TD w a.t b.t W) => hG.below h.1.1 (Nat.le_refl _))
  clear hG
  clear ha hb
  unfold AddPost at KD ⊢
  generalize addD a (negD b) = D at *
  generalize addE a (negD b) = E at *
  generalize negD b = c at *
  unfold Dy.t at T0
  go_enter Tryz.func71, Tryz.ntmps71
  go_wp2_with fail
  refine (KA.out _ _ _ (by simp)).mono ?_
  rintro e w1 ⟨rfl, hb⟩
  replace T0 := (T0.more _).step hb
  clear hb
  have T1 : TD w a.t b.t w1 := T0.td
  clear T0
  go_wp2_with fail
  have M0 : ∀ W, TD w a.t b.t W → W.cell? ⟨w.heap.size, 0, none⟩ = some (.bool a.g) := fun W h => h.1.2.1.facts.2.1
  have M1 : ∀ W, TD w a.t b.t W → W.cell? ⟨w.heap.size, 1, none⟩ = some (.string (natS a.n)) := fun W h => h.1.2.1.facts.2.2.1
  have M2 : ∀ W, TD w a.t b.t W → W.cell? ⟨w.heap.size, 2, none⟩ = some (.int .i64 a.x) := fun W h => h.1.2.1.facts.2.2.2.1
  have M3 : ∀ W, TD w a.t b.t W → W.cell? ⟨w.heap.size + 1, 0, none⟩ = some (.bool b.g) := fun W h => h.1.2.2.facts.2.1
  have M4 : ∀ W, TD w a.t b.t W → W.cell? ⟨w.heap.size + 1, 1, none⟩ = some (.string (natS b.n)) := fun W h => h.1.2.2.facts.2.2.1
  have M5 : ∀ W, TD w a.t b.t W → W.cell? ⟨w.heap.size + 1, 2, none⟩ = some (.int .i64 b.x) := fun W h => h.1.2.2.facts.2.2.2.1
  have M6 := fun W (h : TD w a.t b.t W) => h.cells.2.1
  have M7 := fun W (h : TD w a.t b.t W) => h.cells.2.2.1
  have M8 := fun W (h : TD w a.t b.t W) => h.cells.2.2.2.1
  have M9 := fun W (h : TD w a.t b.t W) => h.cells.2.2.2.2.1
  have M10 := fun W (h : TD w a.t b.t W) => h.cells.2.2.2.2.2.1
  have M11 := fun W (h : TD w a.t b.t W) => h.cells.2.2.2.2.2.2
  go_region_held3 (TD w a.t b.t) (first | assumption | exact TD.step (by assumption) (by assumption) | exact TD.put (by assumption) _ _ _ | exact TD.drew (by assumption) | exact TD.drawn (by assumption) _)
    (first
      | (go_at_call 22; (refine (KN.out _).mono ?_); rintro e wd ⟨rfl, hb10⟩; unfold Dy.v)
      | (go_at_call 38; (refine (KD.out _ (HG.out _ (by assumption))).mono ?_); rintro e we ⟨rfl, hb11⟩; have HSV := Lib.hid (TD.step (a := a.t) (b := b.t) (w := w) (by assumption) hb11); unfold Dy.v))
  obtain ⟨r0, r1, r2, r3, r4, r5, r6⟩ := HSV.out.cells
  have hfin := below_put HSV.out.1.1 (show w.heap.size ≤ w.heap.size + 2 by omega)
  clear M0 M1 M2 M3 M4 M5 M6 M7 M8 M9 M10 M11
  go_wp2_with fail
  refine bodyPost_ret (v := .tuple #[D.v, .int .i64 E]) (by simp [results, Tryz.results71, go_sem, r0, r1, r2, r3, Dy.v]) rfl ⟨rfl, ?_⟩
  exact hfin _ _ _
end Go.Proofs.YtamcnnocjelcjaaGreatDoor
namespace Go.Proofs.YtamcnnocjelcjaaGreatDoor
open Go Go.RowKit Nt
end Go.Proofs.YtamcnnocjelcjaaGreatDoor
namespace Go.Proofs.YtamcnnocjelcjaaGreatDoor
open Go Go.RowKit Nt
def OC (w : World) (a : Dt) (W : World) : Prop := OB w a W ∧ Box3 W (w.heap.size + 1) (.bool false) (.string ⟨#[]⟩) (.int .i64 0)
theorem OC.start (w : World) (a : Dt) : OC w a ((w.alloc (.cells #[.bool a.g, .string a.s, .int .i64 a.x] 24)).alloc (.cells #[.bool false, .string ⟨#[]⟩, .int .i64 0] 24)) := by
  refine ⟨(OB.start w a).more _, ?_⟩
  have := Box3.new (w.alloc (.cells #[.bool a.g, .string a.s, .int .i64 a.x] 24)) (.bool false) (.string ⟨#[]⟩) (.int .i64 0)
  simpa using this
theorem OC.step {w : World} {a : Dt} {W W' : World} (h : OC w a W) (hb : Below W.heap.size W W') : OC w a W' := ⟨h.1.step hb, h.2.step hb⟩
theorem OC.more {w : World} {a : Dt} {W : World} (h : OC w a W) (o : Obj) : OC w a (W.alloc o) := h.step ((Below.refl _ _).alloc (Nat.le_refl _) _)
theorem OC.fin {w : World} {a : Dt} {W : World} (h : OC w a W) (x y z : Value) : Below w.heap.size w (((W.setCell ⟨w.heap.size + 1, 0, none⟩ x).setCell ⟨w.heap.size + 1, 1, none⟩ y).setCell ⟨w.heap.size + 1, 2, none⟩ z) := below_put h.1.1 (by omega) x y z
end Go.Proofs.YtamcnnocjelcjaaGreatDoor
set_option linter.unusedSectionVars false
namespace Go.Proofs.YtamcnnocjelcjaaGreatDoor
open Go Go.RowKit Nt
theorem natS_inj {m n : Nat} : natS m = natS n ↔ m = n := by
  constructor
  · intro h
    have : (natS m).toList = (natS n).toList := by rw [h]
    exact (natS_list_eq m n).1 this
  · rintro rfl; rfl
theorem Dy.ext_iff' {a b : Dy} : (a.g = b.g ∧ natS a.n = natS b.n ∧ a.x = b.x) ↔ a = b := by
  obtain ⟨g, n, x⟩ := a
  obtain ⟨g', n', x'⟩ := b
  simp [natS_inj]
theorem str_inj {s s' : ByteArray} (h : s.toList = s'.toList) : s = s' := by
  rw [ByteArray.toList_eq, ByteArray.toList_eq] at h
  obtain ⟨a⟩ := s
  obtain ⟨b⟩ := s'
  have : a = b := Array.ext' h
  rw [this]
section
variable [Env]
end
def Dy.one : Dy := ⟨false, 1, 0⟩
end Go.Proofs.YtamcnnocjelcjaaGreatDoor
namespace Go.Proofs.YtamcnnocjelcjaaGreatDoor
open Go Go.RowKit Nt
end Go.Proofs.YtamcnnocjelcjaaGreatDoor
namespace Go.Proofs.YtamcnnocjelcjaaGreatDoor
open Go Go.RowKit Nt
@[irreducible] def EE : Nat := 4194304
theorem EE_eq : EE = 4194304 := by unfold EE; rfl
def iv (d : Dy) : Int := sgnd d.g (d.n * 2 ^ (d.x + EE).toNat)
theorem iv_zero : iv Dy.zero = 0 := by
  unfold iv Dy.zero sgnd
  simp
theorem sgnd_abs (g : Bool) (m : Nat) : (sgnd g m).natAbs = m := by unfold sgnd; cases g <;> simp
theorem sgnd_neg {g : Bool} {m : Nat} (h : m ≠ 0) : decide (sgnd g m < 0) = g := by unfold sgnd; cases g <;> simp <;> omega
def mkZ (z : Int) (k : Nat) : Dy := mkD (decide (z < 0)) z.natAbs (-(k : Int))
def mkZE (z : Int) (k : Nat) : Int := mkE z.natAbs (-(k : Int))
theorem mk_toZ (g : Bool) (n : Nat) (x : Int) (k : Nat) (h : -(k : Int) ≤ x) : mkD g n x = mkZ (sgnd g (n * 2 ^ (x + k).toNat)) k ∧ mkE n x = mkZE (sgnd g (n * 2 ^ (x + k).toNat)) k := by
  obtain ⟨j, hj⟩ : ∃ j, j = (x + k).toNat := ⟨_, rfl⟩
  rw [← hj]
  have e : -(k : Int) = x - (j : Int) := by omega
  have hs := mkD_shift g n j x
  unfold mkZ mkZE
  rw [sgnd_abs, e, hs.2]
  by_cases h0 : n = 0
  · subst h0; rw [Nat.zero_mul, mkD_zero, mkD_zero]; exact ⟨rfl, rfl⟩
  · have h1 : n * 2 ^ j ≠ 0 := Nat.mul_ne_zero h0 (Nat.pos_iff_ne_zero.1 (Nat.two_pow_pos j))
    rw [sgnd_neg h1, hs.1]; exact ⟨rfl, rfl⟩
theorem mk_iv {z : Int} (h : mkZE z EE = 0) : iv (mkZ z EE) = z := by
  have hk : mkOk3 z.natAbs (-(EE : Int)) := by
    by_cases c : mkOk3 z.natAbs (-(EE : Int))
    · exact c
    · unfold mkZE at h; rw [mkE_no c] at h; exact absurd h (by decide)
  unfold mkZ
  by_cases h0 : z.natAbs = 0
  · have : z = 0 := by omega
    subst this
    rw [show (0 : Int).natAbs = 0 from rfl, mkD_zero, iv_zero]
  · rw [mkD_ok h0 hk]
    unfold iv
    show sgnd (decide (z < 0)) (odN z.natAbs * 2 ^ (-(EE : Int) + (lowN z.natAbs : Int) + (EE : Int)).toNat) = z
    rw [show (-(EE : Int) + (lowN z.natAbs : Int) + (EE : Int)).toNat = lowN z.natAbs by omega, ← (odN_spec h0).2]
    unfold sgnd
    by_cases hz : z < 0
    · rw [decide_eq_true hz, if_pos rfl]; omega
    · rw [decide_eq_false hz, if_neg (by decide)]; omega
theorem iv_neg (d : Dy) : iv (negD d) = - iv d := by
  unfold negD
  by_cases h : d.n = 0
  · rw [if_pos h]; unfold iv sgnd; rw [h, Nat.zero_mul]; cases d.g <;> rfl
  · rw [if_neg h]; unfold iv sgnd; cases d.g <;> simp
theorem sgnd_f (m : Nat) : sgnd false m = (m : Int) := rfl
theorem sgnd_t (m : Nat) : sgnd true m = -(m : Int) := rfl
def sgI (z : Int) : Int := if z < 0 then -1 else if 0 < z then 1 else 0
theorem iv_pos {d : Dy} (h : d.Num) : 0 < d.n * 2 ^ (d.x + (EE : Int)).toNat := Nat.mul_pos (Nat.pos_of_ne_zero (odd_ne h.2.1)) (Nat.two_pow_pos _)
theorem sgD_iv {d : Dy} (h : d.Ok) : sgD d = sgI (iv d) := by
  rcases h with rfl | h
  · rw [sgD_zero, iv_zero]; rfl
  · have hp := iv_pos h
    rw [sgD_num (odd_ne h.2.1)]
    unfold iv
    generalize d.n * 2 ^ (d.x + (EE : Int)).toNat = m at *
    unfold sgI
    cases d.g
    · rw [sgn_f, sgnd_f, if_neg (by omega), if_pos (by omega)]
    · rw [sgn_t, sgnd_t, if_pos (by omega)]
theorem cmp_mul (a b c : Nat) (hc : 0 < c) : cmpN (a * c) (b * c) = cmpN a b := by
  rcases Nat.lt_trichotomy a b with h | h | h
  · rw [cmpN_lt h, cmpN_lt (Nat.mul_lt_mul_of_pos_right h hc)]
  · rw [h, cmpN_eq, cmpN_eq]
  · rw [cmpN_gt h, cmpN_gt (Nat.mul_lt_mul_of_pos_right h hc)]
theorem mag_iv {a b : Dy} (ha : a.Num) (hb : b.Num) : magC a b = cmpN (a.n * 2 ^ (a.x + (EE : Int)).toNat) (b.n * 2 ^ (b.x + (EE : Int)).toNat) := by
  have hax := ha.2.2
  have hbx := hb.2.2
  obtain ⟨i, hi⟩ : ∃ i, i = (a.x + (EE : Int)).toNat := ⟨_, rfl⟩
  obtain ⟨j, hj⟩ : ∃ j, j = (b.x + (EE : Int)).toNat := ⟨_, rfl⟩
  have hie : a.x = (i : Int) - (EE : Int) := by rw [EE_eq] at *; omega
  have hje : b.x = (j : Int) - (EE : Int) := by rw [EE_eq] at *; omega
  have na := nd_mul_pow (j := i) (odd_ne ha.2.1)
  have nb := nd_mul_pow (j := j) (odd_ne hb.2.1)
  rw [← hi, ← hj]
  rcases Int.lt_trichotomy (topD a) (topD b) with h | h | h
  · rw [magC_lt h]
    rw [topD_eq, topD_eq] at h
    exact (cmpN_lt (lt_of_nd (b := 2) (by omega) (by omega))).symm
  · rw [magC_eq h, upN_eq, upN_eq]
    by_cases hx : j ≤ i
    · rw [show (a.x - b.x).toNat = i - j by omega, show (b.x - a.x).toNat = 0 by omega, Nat.pow_zero, Nat.mul_one, ← cmp_mul _ _ (2 ^ j) (Nat.two_pow_pos j), Nat.mul_assoc, ← Nat.pow_add, show i - j + j = i by omega]
    · rw [show (a.x - b.x).toNat = 0 by omega, show (b.x - a.x).toNat = j - i by omega, Nat.pow_zero, Nat.mul_one, ← cmp_mul _ _ (2 ^ i) (Nat.two_pow_pos i), Nat.mul_assoc, ← Nat.pow_add, show j - i + i = j by omega]
  · rw [magC_gt h]
    rw [topD_eq, topD_eq] at h
    exact (cmpN_gt (lt_of_nd (b := 2) (by omega) (by omega))).symm
theorem cmp_iv {a b : Dy} (ha : a.Ok) (hb : b.Ok) : cmpD a b = sgI (iv a - iv b) := by
  have sa := sgD_iv ha
  have sb := sgD_iv hb
  rcases Int.lt_trichotomy (sgD a) (sgD b) with h | h | h
  · rw [cmpD_lt h]
    rw [sa, sb] at h
    unfold sgI at h ⊢
    rw [if_pos (by split at h <;> split at h <;> (try split at h) <;> (try split at h) <;> omega)]
  · by_cases h0 : sgD a = 0
    · rw [cmpD_zero h h0, Dy.zero_of ha h0, Dy.zero_of hb (h ▸ h0), iv_zero]; rfl
    · rw [cmpD_eq h h0]
      have na := Dy.num_of ha h0
      have nb := Dy.num_of hb (h ▸ h0)
      rw [mag_iv na nb, sgD_num (odd_ne na.2.1)]
      have hg : sgnI a.g = sgnI b.g := by rw [← sgD_num (odd_ne na.2.1), ← sgD_num (odd_ne nb.2.1)]; exact h
      have hg2 : a.g = b.g := by
        revert hg
        cases a.g <;> cases b.g <;> simp [sgn_t, sgn_f]
      unfold iv
      rw [← hg2]
      generalize a.n * 2 ^ (a.x + (EE : Int)).toNat = m
      generalize b.n * 2 ^ (b.x + (EE : Int)).toNat = n
      unfold sgI
      rcases Nat.lt_trichotomy m n with c | c | c
      · rw [cmpN_lt c]
        cases a.g
        · rw [sgn_f, sgnd_f, sgnd_f, if_pos (by omega)]; rfl
        · rw [sgn_t, sgnd_t, sgnd_t, if_neg (by omega), if_pos (by omega)]; rfl
      · rw [c, cmpN_eq, Int.mul_zero, if_neg (by omega), if_neg (by omega)]
      · rw [cmpN_gt c]
        cases a.g
        · rw [sgn_f, sgnd_f, sgnd_f, if_neg (by omega), if_pos (by omega)]; rfl
        · rw [sgn_t, sgnd_t, sgnd_t, if_pos (by omega)]; rfl
  · rw [cmpD_gt h]
    rw [sa, sb] at h
    unfold sgI at h ⊢
    rw [if_neg (by split at h <;> split at h <;> (try split at h) <;> (try split at h) <;> omega), if_pos (by split at h <;> split at h <;> (try split at h) <;> (try split at h) <;> omega)]
end Go.Proofs.YtamcnnocjelcjaaGreatDoor
namespace Go.Proofs.YtamcnnocjelcjaaGreatDoor
open Go Go.RowKit Nt
structure Gs where
  re : Dy
  im : Dy
def Gs.v (a : Gs) : Value := .agg #[.bool a.re.g, .string (natS a.re.n), .int .i64 a.re.x, .bool a.im.g, .string (natS a.im.n), .int .i64 a.im.x]
def Gs.zero : Gs := ⟨Dy.zero, Dy.zero⟩
theorem Gs.zero_v : Gs.zero.v = .agg #[.bool false, .string ⟨#[]⟩, .int .i64 0, .bool false, .string ⟨#[]⟩, .int .i64 0] := by
  show Value.agg #[.bool false, .string (natS 0), .int .i64 0, .bool false, .string (natS 0), .int .i64 0] = _
  rw [natS_zero]
def Gs.Ok (a : Gs) : Prop := a.re.Ok ∧ a.im.Ok
theorem Gs.zero_Ok : Gs.zero.Ok := ⟨Or.inl rfl, Or.inl rfl⟩
structure Gt where
  re : Dt
  im : Dt
def Gt.v (a : Gt) : Value := .agg #[.bool a.re.g, .string a.re.s, .int .i64 a.re.x, .bool a.im.g, .string a.im.s, .int .i64 a.im.x]
def Dt.zero : Dt := ⟨false, ⟨#[]⟩, 0⟩
theorem Dt.zero_v : Dt.zero.v = .agg #[.bool false, .string ⟨#[]⟩, .int .i64 0] := rfl
theorem Dt.zero_Ok : Dt.zero.Ok := Or.inl ⟨rfl, rfl, rfl⟩
def Gt.zero : Gt := ⟨Dt.zero, Dt.zero⟩
theorem Gt.zero_v : Gt.zero.v = .agg #[.bool false, .string ⟨#[]⟩, .int .i64 0, .bool false, .string ⟨#[]⟩, .int .i64 0] := rfl
def Gt.Ok (a : Gt) : Prop := a.re.Ok ∧ a.im.Ok
def Gt.Small (a : Gt) : Prop := a.re.s.size ≤ 9223372036854775807 ∧ a.im.s.size ≤ 9223372036854775807
def Gs.t (a : Gs) : Gt := ⟨a.re.t, a.im.t⟩
theorem Gs.ok_t {a : Gs} (h : a.Ok) : a.t.Ok := ⟨Dy.ok_t h.1, Dy.ok_t h.2⟩
theorem Gt.gs {a : Gt} (h : a.Ok) : ∃ d : Gs, d.Ok ∧ a = d.t := by
  obtain ⟨r, i⟩ := a
  obtain ⟨x, h1, h2⟩ := Dt.dy h.1
  obtain ⟨y, h3, h4⟩ := Dt.dy h.2
  simp only at h2 h4
  exact ⟨⟨x, y⟩, ⟨h1, h3⟩, by rw [h2, h4]; rfl⟩
open Classical in
@[irreducible] noncomputable def gE (a : Gt) : Int := if a.Ok then 0 else 2
theorem gE_ok {a : Gt} (h : a.Ok) : gE a = 0 := by unfold gE; rw [if_pos h]
theorem gE_no {a : Gt} (h : ¬ a.Ok) : gE a = 2 := by unfold gE; rw [if_neg h]
theorem dE1 {t : Dt} : dE [t] = 0 ↔ t.Ok := by
  constructor
  · intro h
    by_cases hn : t.Ok
    · exact hn
    · rw [dE_no (List.mem_singleton.2 rfl) hn] at h; cases h
  · intro h
    exact dE_ok fun u hu => by rw [List.mem_singleton.1 hu]; exact h
theorem eqG_run {g g' k k' : Bool} {s s' r r' : ByteArray} {x x' y y' : Int} {c : Bool} (h : c = true ↔ ((g = g' ∧ s = s' ∧ x = x') ∧ (k = k' ∧ r = r' ∧ y = y'))) (p q : Operand) (w : World) : (do eqGuard .eql 26 p q (.agg #[.bool g, .string s, .int .i64 x, .bool k, .string r, .int .i64 y]) (.agg #[.bool g', .string s', .int .i64 x', .bool k', .string r', .int .i64 y']); binOp .eql 26 (.agg #[.bool g, .string s, .int .i64 x, .bool k, .string r, .int .i64 y]) (.agg #[.bool g', .string s', .int .i64 x', .bool k', .string r', .int .i64 y'])).run Tryz.prog w = .ok (.bool c) w := by
  have hs : s.toList = s'.toList ↔ s = s' := ⟨str_inj, fun h => by rw [h]⟩
  have hr : r.toList = r'.toList ↔ r = r' := ⟨str_inj, fun h => by rw [h]⟩
  go_simp
  cases c with
  | true =>
    obtain ⟨⟨rfl, rfl, rfl⟩, rfl, rfl, rfl⟩ := h.1 rfl
    simp
  | false =>
    have hn : ¬ ((g = g' ∧ s = s' ∧ x = x') ∧ (k = k' ∧ r = r' ∧ y = y')) := fun e => Bool.false_ne_true (h.2 e)
    repeat' split
    all_goals first
      | rfl
      | exact absurd ⟨⟨by assumption, by assumption, by assumption⟩, by assumption, by assumption, by assumption⟩ hn
theorem Gs.ext_iff' {a b : Gs} : ((a.re.g = b.re.g ∧ natS a.re.n = natS b.re.n ∧ a.re.x = b.re.x) ∧ (a.im.g = b.im.g ∧ natS a.im.n = natS b.im.n ∧ a.im.x = b.im.x)) ↔ a = b := by
  rw [Dy.ext_iff', Dy.ext_iff']
  obtain ⟨r, i⟩ := a
  obtain ⟨r', i'⟩ := b
  simp
theorem Dt.ext_iff' {a b : Dt} : (a.g = b.g ∧ a.s = b.s ∧ a.x = b.x) ↔ a = b := by
  obtain ⟨g, n, x⟩ := a
  obtain ⟨g', n', x'⟩ := b
  simp
theorem Gt.ext_iff' {a b : Gt} : ((a.re.g = b.re.g ∧ a.re.s = b.re.s ∧ a.re.x = b.re.x) ∧ (a.im.g = b.im.g ∧ a.im.s = b.im.s ∧ a.im.x = b.im.x)) ↔ a = b := by
  rw [Dt.ext_iff', Dt.ext_iff']
  obtain ⟨r, i⟩ := a
  obtain ⟨r', i'⟩ := b
  simp
section
variable [Env]
theorem optU_eql_t {A B : AV} {a b : Gt} (ha : gval A = a.v) (hb : gval B = b.v) (h : a = b) : OpT Tryz.prog [0, 11, 26] [A, B] (.lit (.bool true)) :=
  opt_bin (op := .eql) rfl fun p q w => by rw [ha, hb]; exact eqG_run (c := true) ⟨fun _ => Gt.ext_iff'.2 h, fun _ => rfl⟩ p q w
theorem optU_eql_f {A B : AV} {a b : Gt} (ha : gval A = a.v) (hb : gval B = b.v) (h : ¬ a = b) : OpT Tryz.prog [0, 11, 26] [A, B] (.lit (.bool false)) :=
  opt_bin (op := .eql) rfl fun p q w => by rw [ha, hb]; exact eqG_run (c := false) ⟨(fun c => by cases c), fun c => absurd (Gt.ext_iff'.1 c) h⟩ p q w
end
end Go.Proofs.YtamcnnocjelcjaaGreatDoor
