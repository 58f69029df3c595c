/- Texts put together: D15 D16 D17 D23 Fft B1t B2t B3t EvT D6 D7 D22 D24 D27 D28 D35 D37 D42 D43 SyD SyE D46 D47 G1 G2 G3 GBox Aw24 V4 VC1 VC2 VW TG1 TG2 TG3 TG5 TG4 TG4b TG3b TG3c. -/
import Derived.Test.YtackmbfbilbopaaGreatDoorU3
import Derived.BigQuiet
import Derived.Deep.RegionLaw
import Ieee.Arith
import Derived.Test.YtackmbfbilbopaaGreatDoorProg
import Derived.WalkKit
import Derived.WalkLawsBesides
import Derived.WalkSpells
import Derived.Outline
import Derived.Lib.Hide
import Derived.Deep.Light
import Derived.Laws.BitsAllLaws
import Derived.Shelf.Small.Bits
import Derived.Shelf.Small.Wraps
import Derived.Shelf.Strconv.Itoa0
import Derived.Shelf.Bits.Mul64
import Derived.Ground.Names2Prog
import Derived.Shelf.Slices.SearchI
import Derived.Shelf.Spec.TrailingZeros
import Derived.Shelf.Spec.BitsCarry
import Derived.Laws.FloatArith
import Derived.Deep.QuietTactic
import Derived.Lib.TrailingZeros
import Derived.Laws.ShiftsVarLaws
import Derived.WalkSmall
import Derived.Test.YtackmbfbilbopaaGreatDoorRows
import Derived.LaidSub
import Derived.Lib.LaidTab
import Derived.Deep.RegionHeld3
import Derived.IntWalk
import Derived.RangeFuncNested
import Derived.RangeFuncBound
import Derived.RangeFuncCalls
import Derived.RangeFuncLeaves
import Derived.RangeFuncFrom
import Derived.Shelf.Abstract
import Derived.Shelf.RegionOpen
import Derived.OwnWalkIn
import Derived.TacticsInMore
import Derived.LoopNIn
import Derived.LoopIn
import Derived.WalkMore
set_option linter.unusedSimpArgs false
set_option linter.unusedVariables false
namespace Go.Proofs.YtackmbfbilbopaaGreatDoor
open Go Go.RowKit Nt
def MkPost (g : Bool) (n : Nat) (x : Int) (w : World) (e : Ending) (w' : World) : Prop := e = .returned (.tuple #[(mkD g n x).v, .int .i64 (mkE n x)]) ∧ Below w.heap.size w w'
theorem MkPost.no {g : Bool} {n : Nat} {x : Int} (h : ¬ mkOk3 n x) {w : World} {e : Ending} {w' : World} (he : e = .returned (.tuple #[.agg #[.bool false, .string ⟨#[]⟩, .int .i64 0], .int .i64 4])) (hb : Below w.heap.size w w') : MkPost g n x w e w' := by
  unfold MkPost
  rw [mkD_no h, mkE_no h, Dy.zero_v]
  exact ⟨he, hb⟩
theorem MkPost.zero {g : Bool} {x : Int} {w : World} {e : Ending} {w' : World} (he : e = .returned (.tuple #[.agg #[.bool false, .string ⟨#[]⟩, .int .i64 0], .int .i64 0])) (hb : Below w.heap.size w w') : MkPost g 0 x w e w' := by
  unfold MkPost
  rw [mkD_zero, mkE_zero, Dy.zero_v]
  exact ⟨he, hb⟩
theorem MkPost.ok {g : Bool} {n : Nat} {x : Int} (h0 : n ≠ 0) (h : mkOk3 n x) {w : World} {e : Ending} {w' : World} (he : e = .returned (.tuple #[.agg #[.bool g, .string (natS (odN n)), .int .i64 (x + lowN n)], .int .i64 0])) (hb : Below w.heap.size w w') : MkPost g n x w e w' := by
  unfold MkPost
  rw [mkD_ok h0 h, mkE_ok h]
  exact ⟨he, hb⟩
end Go.Proofs.YtackmbfbilbopaaGreatDoor
namespace Go.Proofs.YtackmbfbilbopaaGreatDoor
open Go Go.RowKit Nt
end Go.Proofs.YtackmbfbilbopaaGreatDoor
namespace Go.Proofs.YtackmbfbilbopaaGreatDoor
open Go Go.RowKit Nt
end Go.Proofs.YtackmbfbilbopaaGreatDoor
namespace Go.Proofs.YtackmbfbilbopaaGreatDoor
open Go Go.RowKit Nt
structure Dt where
  g : Bool
  s : ByteArray
  x : Int
def Dt.v (t : Dt) : Value := .agg #[.bool t.g, .string t.s, .int .i64 t.x]
def Dt.Ok (t : Dt) : Prop := DOk t.g t.s t.x
open Classical in
@[irreducible] noncomputable def dE (l : List Dt) : Int := if ∀ t ∈ l, t.Ok then 0 else 2
theorem dE_ok {l : List Dt} (h : ∀ t ∈ l, t.Ok) : dE l = 0 := by unfold dE; rw [if_pos h]
theorem dE_no {l : List Dt} {t : Dt} (h : t ∈ l) (hn : ¬ t.Ok) : dE l = 2 := by unfold dE; rw [if_neg (fun c => hn (c t h))]
theorem DCheck_c (t : Dt) (w : World) (hs : t.s.size ≤ 9223372036854775807) : Calls Tryz.prog 38 #[.agg #[.bool t.g, .string t.s, .int .i64 t.x]] w fun e w' => e = .returned (.int .i64 (dE [t])) ∧ Below w.heap.size w w' := by
  by_cases h : t.Ok
  · rw [dE_ok (fun u hu => by rw [List.mem_singleton.1 hu]; exact h)]
    rcases h with ⟨e1, e2, e3⟩ | ⟨n, hf, ho, e1, h1, h2⟩
    · rw [e1, e2, e3]; exact DCheck_zero w
    · rw [e1]; exact DCheck_num t.g n t.x w hf ho h1 h2
  · rw [dE_no (List.mem_singleton.2 rfl) h]
    exact DCheck_bad t.g t.s t.x w hs h
def Dts (w : World) (A : Option Addr) (l : List Dt) : Prop := 0 < l.length → ∃ ad, A = some ad ∧ ad.block < w.heap.size ∧ ∀ j (h : j < l.length), w.cell? (ad.add (j * 3)) = some (.bool l[j].g) ∧ w.cell? ⟨(ad.add (j * 3)).block, (ad.add (j * 3)).off + 1, none⟩ = some (.string l[j].s) ∧ w.cell? ⟨(ad.add (j * 3)).block, (ad.add (j * 3)).off + 2, none⟩ = some (.int .i64 l[j].x)
theorem Dts.below {w w' : World} {A : Option Addr} {l : List Dt} (h : Dts w A l) (hb : Below w.heap.size w w') : Dts w' A l := fun h0 => by
  obtain ⟨ad, e, hl, hc⟩ := h h0
  refine ⟨ad, e, Nat.lt_of_lt_of_le hl hb.size, fun j hj => ?_⟩
  obtain ⟨c1, c2, c3⟩ := hc j hj
  exact ⟨(hb.cell (p := ad.add (j * 3)) (by rw [block_of_add']; exact hl)).trans c1, (hb.cell (p := ⟨(ad.add (j * 3)).block, (ad.add (j * 3)).off + 1, none⟩) (by show (ad.add (j * 3)).block < _; rw [block_of_add']; exact hl)).trans c2, (hb.cell (p := ⟨(ad.add (j * 3)).block, (ad.add (j * 3)).off + 2, none⟩) (by show (ad.add (j * 3)).block < _; rw [block_of_add']; exact hl)).trans c3⟩
end Go.Proofs.YtackmbfbilbopaaGreatDoor
namespace Go.Proofs.YtackmbfbilbopaaGreatDoor.Bt.Ff
open Ieee
def rung (x : Nat) : Nat := x % 9223372036854775808
def sgn (x : Nat) : Bool := x / 9223372036854775808 % 2 == 1
def isn (x : Nat) : Prop := 9218868437227405312 < rung x
instance (x : Nat) : Decidable (isn x) := by unfold isn; exact inferInstance
def mag (r : Nat) : Nat := if r < 4503599627370496 then r else (4503599627370496 + r % 4503599627370496) * 2 ^ (r / 4503599627370496 - 1)
theorem sw : double.signWeight = 9223372036854775808 := by decide
theorem bin : double.binade = 4503599627370496 := by decide
theorem infr : double.infRung = 9218868437227405312 := by decide
theorem lp : double.leastPlace = -1074 := by decide
theorem read_eq (x : Nat) : double.read x =
    if rung x < 4503599627370496 then .number (sgn x) (rung x) (-1074)
    else if rung x < 9218868437227405312 then .number (sgn x) (4503599627370496 + rung x % 4503599627370496) (-1074 + ((rung x / 4503599627370496 - 1 : Nat) : Int))
    else if rung x = 9218868437227405312 then .infinity (sgn x) else .nan (sgn x) (rung x - 9218868437227405312) := by
  unfold Format.read
  rw [sw, bin, infr, lp]
  rfl
theorem mag_small {r : Nat} (h : r < 4503599627370496) : mag r = r := by unfold mag; rw [if_pos h]
theorem mag_big {r : Nat} (h : ¬ r < 4503599627370496) : mag r = (4503599627370496 + r % 4503599627370496) * 2 ^ (r / 4503599627370496 - 1) := by unfold mag; rw [if_neg h]
theorem signed_eq (s : Bool) (m u : Nat) : signed s m u = if s then -((m * 2 ^ u : Nat) : Int) else ((m * 2 ^ u : Nat) : Int) := by
  unfold signed; rw [Nat.shiftLeft_eq]
theorem read_fin {x : Nat} (h : rung x < 9218868437227405312) : ∃ m i : Nat, double.read x = .number (sgn x) m (-1074 + (i : Int)) ∧ m * 2 ^ i = mag (rung x) := by
  rw [read_eq]
  by_cases c : rung x < 4503599627370496
  · rw [if_pos c]; exact ⟨rung x, 0, rfl, by rw [mag_small c]; simp⟩
  · rw [if_neg c, if_pos h]; exact ⟨_, _, rfl, by rw [mag_big c]⟩
end Go.Proofs.YtackmbfbilbopaaGreatDoor.Bt.Ff
namespace Go.Proofs.YtackmbfbilbopaaGreatDoor.Bt
open Go Ff
theorem ret_int {k : IntKind} {a b : Int} (h : a = b) : Ending.returned (.int k a) = .returned (.int k b) := by rw [h]
@[irreducible] def infB (x : Nat) : Bool := rung x == 9218868437227405312
theorem infB_true (x : Nat) : infB x = true ↔ rung x = 9218868437227405312 := by unfold infB; exact beq_iff_eq
@[local go_sem] theorem eq_inf (x : Nat) : ((rung x : Int) == 9218868437227405312) = infB x := by
  rw [Bool.eq_iff_iff, beq_iff_eq, infB_true]; omega
@[irreducible] def subB (x : Nat) : Bool := decide (rung x < 4503599627370496)
theorem subB_true (x : Nat) : subB x = true ↔ rung x < 4503599627370496 := by unfold subB; exact decide_eq_true_iff
@[local go_sem] theorem lt_sub (x : Nat) : decide ((rung x : Int) < 4503599627370496) = subB x := by
  rw [Bool.eq_iff_iff, decide_eq_true_iff, subB_true]; omega
end Go.Proofs.YtackmbfbilbopaaGreatDoor.Bt
namespace Go.Proofs.YtackmbfbilbopaaGreatDoor.Bt
open Go Go.RowKit Ff
@[irreducible] def topped (b : Nat) : Nat := 9223372036854775808 + b
@[irreducible] def wf (neg : Bool) (r : Nat) : Nat := if neg then topped r else r
theorem sub_self (x : Nat) (h : rung x < 9218868437227405312) : floatBits .sub .f64 x x = some 0 := by
  show Ieee.double.sub x x = some 0
  obtain ⟨m, i, hm, _⟩ := read_fin h
  unfold Ieee.Format.sub
  rw [hm]
  simp only [Ieee.Datum.opposite, Ieee.Datum.sum, Int.min_self, Int.sub_self]
  have e : Ieee.signed (sgn x) m (Int.toNat 0) + Ieee.signed (!sgn x) m (Int.toNat 0) = 0 := by
    rw [signed_eq, signed_eq]; cases sgn x <;> simp <;> omega
  rw [e]
  simp only [if_true, Bool.and_not_self]
  rfl
end Go.Proofs.YtackmbfbilbopaaGreatDoor.Bt
namespace Go.Proofs.YtackmbfbilbopaaGreatDoor.Bt
open Go Go.RowKit Ff
def Tabs (w : World) : Prop := TabAt 1 Lib.deBruijn64tab w ∧ 1 < w.heap.size
theorem Tabs.below {w w' : World} (h : Tabs w) (hb : Below w.heap.size w w') : Tabs w' :=
  ⟨fun j hj => by rw [hb.cell (p := ⟨1, j, none⟩) h.2]; exact h.1 j hj, Nat.lt_of_lt_of_le h.2 hb.size⟩
end Go.Proofs.YtackmbfbilbopaaGreatDoor.Bt
namespace Go.Proofs.YtackmbfbilbopaaGreatDoor
open Go Go.RowKit
theorem size_of_cell {w : World} {b o : Nat} {v : Value} (h : w.cell? ⟨b, o, none⟩ = some v) : b < w.heap.size := by
  unfold World.cell? at h
  cases hb : w.heap[b]? with
  | none => simp [hb] at h
  | some x => exact (Array.getElem?_eq_some_iff.1 hb).1
theorem gDe : Tryz.prog.globalNamed "math/bits.deBruijn64tab" = some 1 := by kernel_rfl
theorem gDeType : (Tryz.prog.globals[1]?).map (·.type) = some 261 := by kernel_rfl
theorem cDe : Tryz.prog.cellsOf 261 = 64 := by kernel_rfl
theorem cU8 : Tryz.prog.cellsOf 5 = 1 := by kernel_rfl
def glT : List (Nat × List AV) := [(1, Lib.deBruijn64tab.map fun (x : Nat) => AV.lit (.int .u8 (x : Nat)))]
theorem globs_of {W : World} {laid : List (String × DataW Unit)} (hl : laid.filter (fun x => x.1 == "math/bits.deBruijn64tab") = [("math/bits.deBruijn64tab", Rows.laid_math_bits_deBruijn64tab)]) (hL : laidMetH Tryz.prog laid W) : Globs glT W := by
  have h := hL.filter (fun x => x.1 == "math/bits.deBruijn64tab")
  rw [hl] at h
  have h1 : Lib.TabIs Tryz.prog W "math/bits.deBruijn64tab" .u8 (Lib.deBruijn64tab.map Int.ofNat) := Lib.tabIs_of_head (rest := []) gDe gDeType Tryz.underlying261 Tryz.underlying5 cU8 cDe h
  have hlen : Lib.deBruijn64tab.length = 64 := by decide
  have c1 : ∀ j, j < 64 → W.cell? ⟨1, j, none⟩ = some (.int .u8 ((Lib.deBruijn64tab.getD j 0 : Nat) : Int)) := fun j hj => by
    have := h1.cell gDe j (by rw [List.length_map, hlen]; exact hj)
    rw [this]; simp [List.getD]
    cases Lib.deBruijn64tab[j]? <;> rfl
  intro g B hB
  unfold glT at hB
  rw [look_cons] at hB
  split at hB
  · rename_i e
    injection hB with hB
    have e : 1 = g := e
    subst e hB
    refine ⟨size_of_cell (c1 0 (by decide)), fun i v hv => ?_⟩
    have hi : i < 64 := by
      have := (List.getElem?_eq_some_iff.1 hv).1
      rw [List.length_map, hlen] at this; exact this
    rw [List.getElem?_map] at hv
    cases hx : Lib.deBruijn64tab[i]? with
    | none => rw [hx] at hv; cases hv
    | some x =>
      rw [hx] at hv
      injection hv with hv
      refine ⟨_, hv.symm, ?_⟩
      rw [c1 i hi]
      simp [List.getD, hx]
  · cases hB
end Go.Proofs.YtackmbfbilbopaaGreatDoor
namespace Go.Proofs.YtackmbfbilbopaaGreatDoor
open Go Go.RowKit
theorem Globs.below {gl : List (Nat × List AV)} {w w' : World} (h : Globs gl w) {n : Nat} (hb : Below n w w') (hn : w.heap.size ≤ n) : Globs gl w' := fun g B hB => by
  obtain ⟨h1, h2⟩ := h g B hB
  refine ⟨Nat.lt_of_lt_of_le h1 hb.size, fun i v hv => ?_⟩
  obtain ⟨u, e, c⟩ := h2 i v hv
  exact ⟨u, e, (hb.cell (p := ⟨g, i, none⟩) (by show g < n; omega)).trans c⟩
end Go.Proofs.YtackmbfbilbopaaGreatDoor
namespace Go.Proofs.YtackmbfbilbopaaGreatDoor
open Go Go.RowKit Nt
def BoxAt (w : World) (B : Nat) (g : Bool) (s : ByteArray) (x : Int) : Prop := B < w.heap.size ∧ w.cell? ⟨B, 0, none⟩ = some (.bool g) ∧ w.cell? ⟨B, 1, none⟩ = some (.string s) ∧ w.cell? ⟨B, 2, none⟩ = some (.int .i64 x)
theorem BoxAt.step {w w' : World} {B : Nat} {g : Bool} {s : ByteArray} {x : Int} (h : BoxAt w B g s x) (hb : Below w.heap.size w w') : BoxAt w' B g s x := by
  obtain ⟨h0, h1, h2, h3⟩ := h
  exact ⟨Nat.lt_of_lt_of_le h0 hb.size, (hb.cell (p := ⟨B, 0, none⟩) h0).trans h1, (hb.cell (p := ⟨B, 1, none⟩) h0).trans h2, (hb.cell (p := ⟨B, 2, none⟩) h0).trans h3⟩
theorem BoxAt.new (w : World) (g : Bool) (s : ByteArray) (x : Int) (T : TypeId) : BoxAt (w.alloc (.cells #[.bool g, .string s, .int .i64 x] T)) w.heap.size g s x :=
  ⟨by simp, (World.cell?_alloc_at _ _ _ _ rfl).trans rfl, (World.cell?_alloc_at _ _ _ _ rfl).trans rfl, (World.cell?_alloc_at _ _ _ _ rfl).trans rfl⟩
def On1 (w : World) (g : Bool) (s : ByteArray) (x : Int) (wc : World) : Prop := Below w.heap.size w wc ∧ BoxAt wc w.heap.size g s x
theorem On1.step {w : World} {g : Bool} {s : ByteArray} {x : Int} {wc w' : World} (h : On1 w g s x wc) (hb : Below wc.heap.size wc w') : On1 w g s x w' := ⟨below_chain h.1 hb, h.2.step hb⟩
theorem On1.new (w : World) (g : Bool) (s : ByteArray) (x : Int) (T : TypeId) : On1 w g s x (w.alloc (.cells #[.bool g, .string s, .int .i64 x] T)) := ⟨(Below.refl _ _).alloc (Nat.le_refl _) _, BoxAt.new w g s x T⟩
def On2 (w : World) (g : Bool) (s : ByteArray) (x : Int) (B : Nat) (wc : World) : Prop := On1 w g s x wc ∧ BoxAt wc B false s x
theorem On2.step {w : World} {g : Bool} {s : ByteArray} {x : Int} {B : Nat} {wc w' : World} (h : On2 w g s x B wc) (hb : Below wc.heap.size wc w') : On2 w g s x B w' := ⟨h.1.step hb, h.2.step hb⟩
theorem On2.start {w : World} {g : Bool} {s : ByteArray} {x : Int} {w1 : World} {T : TypeId} (h : On1 w g s x w1) : On2 w g s x w1.heap.size ((w1.alloc (.cells #[.bool false, .string s, .int .i64 x] T)).drew) := by
  have e : Below w1.heap.size w1 (w1.alloc (.cells #[.bool false, .string s, .int .i64 x] T)) := (Below.refl _ _).alloc (Nat.le_refl _) _
  exact ⟨h.step e.drew, (BoxAt.new w1 false s x T).step (Below.refl _ _).drew⟩
end Go.Proofs.YtackmbfbilbopaaGreatDoor
namespace Go.Proofs.YtackmbfbilbopaaGreatDoor
open Go Go.RowKit Nt
def Box3 (w : World) (B : Nat) (a b c : Value) : Prop := Blk w B 24 #[a, b, c]
theorem Box3.facts {w : World} {B : Nat} {a b c : Value} (h : Box3 w B a b c) : B < w.heap.size ∧ w.cell? ⟨B, 0, none⟩ = some a ∧ w.cell? ⟨B, 1, none⟩ = some b ∧ w.cell? ⟨B, 2, none⟩ = some c ∧ w.frozen? ⟨B, 0, none⟩ = false ∧ w.frozen? ⟨B, 1, none⟩ = false ∧ w.frozen? ⟨B, 2, none⟩ = false :=
  ⟨Blk.lt h, (Blk.cell h 0).trans rfl, (Blk.cell h 1).trans rfl, (Blk.cell h 2).trans rfl, Blk.frozen h 0, Blk.frozen h 1, Blk.frozen h 2⟩
theorem Box3.step {w w' : World} {B : Nat} {a b c : Value} (h : Box3 w B a b c) (hb : Below w.heap.size w w') : Box3 w' B a b c := Blk.below h hb (Blk.lt h)
theorem Box3.new (w : World) (a b c : Value) : Box3 (w.alloc (.cells #[a, b, c] 24)) w.heap.size a b c := Blk.new w _ _
theorem Box3.more {w : World} {B : Nat} {a b c : Value} (h : Box3 w B a b c) (o : Obj) : Box3 (w.alloc o) B a b c := Blk.alloc h o
theorem Box3.put {w : World} {B : Nat} {a b c : Value} (h : Box3 w B a b c) (a' b' c' : Value) : Box3 (((w.setCell ⟨B, 0, none⟩ a').setCell ⟨B, 1, none⟩ b').setCell ⟨B, 2, none⟩ c') B a' b' c' := by
  have := ((Blk.set_ h 0 a').set_ 1 b').set_ 2 c'
  unfold Box3
  simpa using this
theorem Box3.far {w : World} {B C : Nat} {a b c : Value} (h : Box3 w B a b c) (hne : B ≠ C) (a' b' c' : Value) : Box3 (((w.setCell ⟨C, 0, none⟩ a').setCell ⟨C, 1, none⟩ b').setCell ⟨C, 2, none⟩ c') B a b c :=
  Blk.far (Blk.far (Blk.far h (p := ⟨C, 0, none⟩) hne a') (p := ⟨C, 1, none⟩) hne b') (p := ⟨C, 2, none⟩) hne c'
theorem below_put {n : Nat} {w W : World} {A : Nat} (hb : Below n w W) (hA : n ≤ A) (a' b' c' : Value) : Below n w (((W.setCell ⟨A, 0, none⟩ a').setCell ⟨A, 1, none⟩ b').setCell ⟨A, 2, none⟩ c') :=
  ((hb.setCell (p := ⟨A, 0, none⟩) hA a').setCell (p := ⟨A, 1, none⟩) hA b').setCell (p := ⟨A, 2, none⟩) hA c'
theorem below_then {a b c : World} (h1 : Below a.heap.size a b) (h2 : Below b.heap.size b c) : Below a.heap.size a c := h1.trans (h2.mono h1.size)
end Go.Proofs.YtackmbfbilbopaaGreatDoor
namespace Go.Proofs.YtackmbfbilbopaaGreatDoor
open Go Go.RowKit Nt
def TB (w : World) (a b : Dt) (W : World) : Prop := Below w.heap.size w W ∧ Box3 W w.heap.size (.bool a.g) (.string a.s) (.int .i64 a.x) ∧ Box3 W (w.heap.size + 1) (.bool b.g) (.string b.s) (.int .i64 b.x)
theorem TB.start (w : World) (a b : Dt) : TB w a b ((w.alloc (.cells #[.bool a.g, .string a.s, .int .i64 a.x] 24)).alloc (.cells #[.bool b.g, .string b.s, .int .i64 b.x] 24)) := by
  have e : (w.alloc (.cells #[.bool a.g, .string a.s, .int .i64 a.x] 24)).heap.size = w.heap.size + 1 := by simp
  refine ⟨((Below.refl _ _).alloc (Nat.le_refl _) _).alloc (by simp) _, (Box3.new w _ _ _).more _, ?_⟩
  rw [← e]
  exact Box3.new _ _ _ _
theorem TB.step {w : World} {a b : Dt} {W W' : World} (h : TB w a b W) (hb : Below W.heap.size W W') : TB w a b W' := ⟨below_then h.1 hb, h.2.1.step hb, h.2.2.step hb⟩
theorem TB.more {w : World} {a b : Dt} {W : World} (h : TB w a b W) (o : Obj) : TB w a b (W.alloc o) := h.step ((Below.refl _ _).alloc (Nat.le_refl _) _)
theorem TB.drawn {w : World} {a b : Dt} {W : World} (h : TB w a b W) (n : Nat) : TB w a b (W.drewN n) := h.step (below_drewN (Below.refl _ _) n)
theorem TB.drew {w : World} {a b : Dt} {W : World} (h : TB w a b W) : TB w a b W.drew := h.step (Below.refl _ _).drew
def Dy.t (d : Dy) : Dt := ⟨d.g, natS d.n, d.x⟩
end Go.Proofs.YtackmbfbilbopaaGreatDoor
namespace Go.Proofs.YtackmbfbilbopaaGreatDoor
open Go Go.RowKit Nt
def OB (w : World) (a : Dt) (W : World) : Prop := Below w.heap.size w W ∧ Box3 W w.heap.size (.bool a.g) (.string a.s) (.int .i64 a.x)
theorem OB.start (w : World) (a : Dt) : OB w a (w.alloc (.cells #[.bool a.g, .string a.s, .int .i64 a.x] 24)) := ⟨(Below.refl _ _).alloc (Nat.le_refl _) _, Box3.new w _ _ _⟩
theorem OB.step {w : World} {a : Dt} {W W' : World} (h : OB w a W) (hb : Below W.heap.size W W') : OB w a W' := ⟨below_then h.1 hb, h.2.step hb⟩
theorem OB.more {w : World} {a : Dt} {W : World} (h : OB w a W) (o : Obj) : OB w a (W.alloc o) := h.step ((Below.refl _ _).alloc (Nat.le_refl _) _)
end Go.Proofs.YtackmbfbilbopaaGreatDoor
namespace Go.Proofs.YtackmbfbilbopaaGreatDoor
open Go Go.RowKit Nt
theorem rMayT_ok (d : Dy) (w : World) (h : d.Ok) : Calls Tryz.prog 37 #[.agg #[.bool d.g, .string (natS d.n), .int .i64 d.x]] w fun e w' => e = .returned (.bool true) ∧ Below w.heap.size w w' := by
  rcases h with rfl | h
  · show Calls _ _ #[.agg #[.bool false, .string (natS 0), .int .i64 0]] _ _
    rw [natS_zero]; exact rMay3_zero w
  · exact rMay3_num d.g d.n d.x w h.1 h.2.1 h.2.2.1 h.2.2.2
theorem Dt.dy {t : Dt} (h : t.Ok) : ∃ d : Dy, d.Ok ∧ t = d.t := by
  obtain ⟨d, h1, h2, h3, h4⟩ := DOk_dy h
  exact ⟨d, h1, by obtain ⟨g, s, x⟩ := t; simp only at h2 h3 h4; rw [h2, h3, h4]; rfl⟩
end Go.Proofs.YtackmbfbilbopaaGreatDoor
namespace Go.Proofs.YtackmbfbilbopaaGreatDoor
open Go Go.RowKit Nt
def TC (w : World) (a b : Dt) (W : World) : Prop := TB w a b W ∧ Box3 W (w.heap.size + 2) (.bool false) (.string ⟨#[]⟩) (.int .i64 0)
theorem TC.start (w : World) (a b : Dt) : TC w a b (((w.alloc (.cells #[.bool a.g, .string a.s, .int .i64 a.x] 24)).alloc (.cells #[.bool b.g, .string b.s, .int .i64 b.x] 24)).alloc (.cells #[.bool false, .string ⟨#[]⟩, .int .i64 0] 24)) := by
  refine ⟨(TB.start w a b).more _, ?_⟩
  have := Box3.new ((w.alloc (.cells #[.bool a.g, .string a.s, .int .i64 a.x] 24)).alloc (.cells #[.bool b.g, .string b.s, .int .i64 b.x] 24)) (.bool false) (.string ⟨#[]⟩) (.int .i64 0)
  simpa using this
theorem TC.step {w : World} {a b : Dt} {W W' : World} (h : TC w a b W) (hb : Below W.heap.size W W') : TC w a b W' := ⟨h.1.step hb, h.2.step hb⟩
theorem TC.more {w : World} {a b : Dt} {W : World} (h : TC w a b W) (o : Obj) : TC w a b (W.alloc o) := h.step ((Below.refl _ _).alloc (Nat.le_refl _) _)
theorem TC.drawn {w : World} {a b : Dt} {W : World} (h : TC w a b W) (n : Nat) : TC w a b (W.drewN n) := h.step (below_drewN (Below.refl _ _) n)
theorem TC.drew {w : World} {a b : Dt} {W : World} (h : TC w a b W) : TC w a b W.drew := h.step (Below.refl _ _).drew
theorem TC.fin {w : World} {a b : Dt} {W : World} (h : TC w a b W) (x y z : Value) : Below w.heap.size w (((W.setCell ⟨w.heap.size + 2, 0, none⟩ x).setCell ⟨w.heap.size + 2, 1, none⟩ y).setCell ⟨w.heap.size + 2, 2, none⟩ z) := below_put h.1.1 (by omega) x y z
end Go.Proofs.YtackmbfbilbopaaGreatDoor
namespace Go.Proofs.YtackmbfbilbopaaGreatDoor
open Go Go.RowKit Nt
def TD (w : World) (a b : Dt) (W : World) : Prop := TB w a b W ∧ ∃ x y z, Box3 W (w.heap.size + 2) x y z
theorem TD.step {w : World} {a b : Dt} {W W' : World} (h : TD w a b W) (hb : Below W.heap.size W W') : TD w a b W' := by
  obtain ⟨h1, x, y, z, h2⟩ := h; exact ⟨h1.step hb, x, y, z, h2.step hb⟩
theorem TD.drawn {w : World} {a b : Dt} {W : World} (h : TD w a b W) (n : Nat) : TD w a b (W.drewN n) := h.step (below_drewN (Below.refl _ _) n)
theorem TD.drew {w : World} {a b : Dt} {W : World} (h : TD w a b W) : TD w a b W.drew := h.step (Below.refl _ _).drew
theorem TD.put {w : World} {a b : Dt} {W : World} (h : TD w a b W) (x y z : Value) : TD w a b (((W.setCell ⟨w.heap.size + 2, 0, none⟩ x).setCell ⟨w.heap.size + 2, 1, none⟩ y).setCell ⟨w.heap.size + 2, 2, none⟩ z) := by
  obtain ⟨⟨h1, h2, h3⟩, x', y', z', h4⟩ := h
  exact ⟨⟨below_put h1 (by omega) _ _ _, h2.far (by omega) _ _ _, h3.far (by omega) _ _ _⟩, _, _, _, h4.put _ _ _⟩
theorem TD.res {w : World} {a b : Dt} {W : World} (h : TD w a b W) : w.heap.size + 2 < W.heap.size ∧ (W.cell? ⟨w.heap.size + 2, 0, none⟩).isSome = true ∧ (W.cell? ⟨w.heap.size + 2, 1, none⟩).isSome = true ∧ (W.cell? ⟨w.heap.size + 2, 2, none⟩).isSome = true ∧ W.frozen? ⟨w.heap.size + 2, 0, none⟩ = false ∧ W.frozen? ⟨w.heap.size + 2, 1, none⟩ = false ∧ W.frozen? ⟨w.heap.size + 2, 2, none⟩ = false := by
  obtain ⟨h1, x, y, z, h4⟩ := h
  obtain ⟨r0, r1, r2, r3, r4, r5, r6⟩ := h4.facts
  exact ⟨r0, by rw [r1]; rfl, by rw [r2]; rfl, by rw [r3]; rfl, r4, r5, r6⟩
@[irreducible] def cellAt (W : World) (B i : Nat) : Value := (W.cell? ⟨B, i, none⟩).getD undef
theorem cellAt_eq {W : World} {B i : Nat} {v : Value} (h : W.cell? ⟨B, i, none⟩ = some v) : W.cell? ⟨B, i, none⟩ = some (cellAt W B i) := by unfold cellAt; rw [h]; rfl
theorem TD.cells {w : World} {a b : Dt} {W : World} (h : TD w a b W) : w.heap.size + 2 < W.heap.size ∧ W.cell? ⟨w.heap.size + 2, 0, none⟩ = some (cellAt W (w.heap.size + 2) 0) ∧ W.cell? ⟨w.heap.size + 2, 1, none⟩ = some (cellAt W (w.heap.size + 2) 1) ∧ W.cell? ⟨w.heap.size + 2, 2, none⟩ = some (cellAt W (w.heap.size + 2) 2) ∧ W.frozen? ⟨w.heap.size + 2, 0, none⟩ = false ∧ W.frozen? ⟨w.heap.size + 2, 1, none⟩ = false ∧ W.frozen? ⟨w.heap.size + 2, 2, none⟩ = false := by
  obtain ⟨h1, x, y, z, h4⟩ := h
  obtain ⟨r0, r1, r2, r3, r4, r5, r6⟩ := h4.facts
  exact ⟨r0, cellAt_eq r1, cellAt_eq r2, cellAt_eq r3, r4, r5, r6⟩
end Go.Proofs.YtackmbfbilbopaaGreatDoor
namespace Go.Proofs.YtackmbfbilbopaaGreatDoor
open Go Go.RowKit Nt
end Go.Proofs.YtackmbfbilbopaaGreatDoor
namespace Go.Proofs.YtackmbfbilbopaaGreatDoor
open Go Go.RowKit Nt
def OC (w : World) (a : Dt) (W : World) : Prop := OB w a W ∧ Box3 W (w.heap.size + 1) (.bool false) (.string ⟨#[]⟩) (.int .i64 0)
theorem OC.start (w : World) (a : Dt) : OC w a ((w.alloc (.cells #[.bool a.g, .string a.s, .int .i64 a.x] 24)).alloc (.cells #[.bool false, .string ⟨#[]⟩, .int .i64 0] 24)) := by
  refine ⟨(OB.start w a).more _, ?_⟩
  have := Box3.new (w.alloc (.cells #[.bool a.g, .string a.s, .int .i64 a.x] 24)) (.bool false) (.string ⟨#[]⟩) (.int .i64 0)
  simpa using this
theorem OC.step {w : World} {a : Dt} {W W' : World} (h : OC w a W) (hb : Below W.heap.size W W') : OC w a W' := ⟨h.1.step hb, h.2.step hb⟩
theorem OC.more {w : World} {a : Dt} {W : World} (h : OC w a W) (o : Obj) : OC w a (W.alloc o) := h.step ((Below.refl _ _).alloc (Nat.le_refl _) _)
theorem OC.fin {w : World} {a : Dt} {W : World} (h : OC w a W) (x y z : Value) : Below w.heap.size w (((W.setCell ⟨w.heap.size + 1, 0, none⟩ x).setCell ⟨w.heap.size + 1, 1, none⟩ y).setCell ⟨w.heap.size + 1, 2, none⟩ z) := below_put h.1.1 (by omega) x y z
end Go.Proofs.YtackmbfbilbopaaGreatDoor
set_option linter.unusedSectionVars false
namespace Go.Proofs.YtackmbfbilbopaaGreatDoor
open Go Go.RowKit Nt
theorem natS_inj {m n : Nat} : natS m = natS n ↔ m = n := by
  constructor
  · intro h
    have : (natS m).toList = (natS n).toList := by rw [h]
    exact (natS_list_eq m n).1 this
  · rintro rfl; rfl
theorem Dy.ext_iff' {a b : Dy} : (a.g = b.g ∧ natS a.n = natS b.n ∧ a.x = b.x) ↔ a = b := by
  obtain ⟨g, n, x⟩ := a
  obtain ⟨g', n', x'⟩ := b
  simp [natS_inj]
theorem str_inj {s s' : ByteArray} (h : s.toList = s'.toList) : s = s' := by
  rw [ByteArray.toList_eq, ByteArray.toList_eq] at h
  obtain ⟨a⟩ := s
  obtain ⟨b⟩ := s'
  have : a = b := Array.ext' h
  rw [this]
section
variable [Env]
end
def Dy.one : Dy := ⟨false, 1, 0⟩
end Go.Proofs.YtackmbfbilbopaaGreatDoor
namespace Go.Proofs.YtackmbfbilbopaaGreatDoor
open Go Go.RowKit
def Ers (w : World) (A : Nat) (l : List Int) : Prop := A < w.heap.size ∧ ∀ j (h : j < l.length), w.cell? ⟨A, j, none⟩ = some (.int .i64 l[j])
theorem Ers.below {w w' : World} {A : Nat} {l : List Int} (h : Ers w A l) (hb : Below w.heap.size w w') : Ers w' A l :=
  ⟨Nat.lt_of_lt_of_le h.1 hb.size, fun j hj => (hb.cell (p := ⟨A, j, none⟩) h.1).trans (h.2 j hj)⟩
section
variable [Env]
end
end Go.Proofs.YtackmbfbilbopaaGreatDoor
namespace Go.Proofs.YtackmbfbilbopaaGreatDoor
open Go Go.RowKit Nt
end Go.Proofs.YtackmbfbilbopaaGreatDoor
namespace Go.Proofs.YtackmbfbilbopaaGreatDoor
open Go Go.RowKit Nt
@[irreducible] def EE : Nat := 4194304
end Go.Proofs.YtackmbfbilbopaaGreatDoor
namespace Go.Proofs.YtackmbfbilbopaaGreatDoor
open Go Go.RowKit Nt
structure Gs where
  re : Dy
  im : Dy
def Gs.v (a : Gs) : Value := .agg #[.bool a.re.g, .string (natS a.re.n), .int .i64 a.re.x, .bool a.im.g, .string (natS a.im.n), .int .i64 a.im.x]
def Gs.zero : Gs := ⟨Dy.zero, Dy.zero⟩
theorem Gs.zero_v : Gs.zero.v = .agg #[.bool false, .string ⟨#[]⟩, .int .i64 0, .bool false, .string ⟨#[]⟩, .int .i64 0] := by
  show Value.agg #[.bool false, .string (natS 0), .int .i64 0, .bool false, .string (natS 0), .int .i64 0] = _
  rw [natS_zero]
def Gs.Ok (a : Gs) : Prop := a.re.Ok ∧ a.im.Ok
theorem Gs.zero_Ok : Gs.zero.Ok := ⟨Or.inl rfl, Or.inl rfl⟩
structure Gt where
  re : Dt
  im : Dt
def Gt.v (a : Gt) : Value := .agg #[.bool a.re.g, .string a.re.s, .int .i64 a.re.x, .bool a.im.g, .string a.im.s, .int .i64 a.im.x]
def Dt.zero : Dt := ⟨false, ⟨#[]⟩, 0⟩
theorem Dt.zero_v : Dt.zero.v = .agg #[.bool false, .string ⟨#[]⟩, .int .i64 0] := rfl
theorem Dt.zero_Ok : Dt.zero.Ok := Or.inl ⟨rfl, rfl, rfl⟩
def Gt.zero : Gt := ⟨Dt.zero, Dt.zero⟩
theorem Gt.zero_v : Gt.zero.v = .agg #[.bool false, .string ⟨#[]⟩, .int .i64 0, .bool false, .string ⟨#[]⟩, .int .i64 0] := rfl
def Gt.Ok (a : Gt) : Prop := a.re.Ok ∧ a.im.Ok
def Gt.Small (a : Gt) : Prop := a.re.s.size ≤ 9223372036854775807 ∧ a.im.s.size ≤ 9223372036854775807
def Gs.t (a : Gs) : Gt := ⟨a.re.t, a.im.t⟩
theorem Gt.gs {a : Gt} (h : a.Ok) : ∃ d : Gs, d.Ok ∧ a = d.t := by
  obtain ⟨r, i⟩ := a
  obtain ⟨x, h1, h2⟩ := Dt.dy h.1
  obtain ⟨y, h3, h4⟩ := Dt.dy h.2
  simp only at h2 h4
  exact ⟨⟨x, y⟩, ⟨h1, h3⟩, by rw [h2, h4]; rfl⟩
open Classical in
@[irreducible] noncomputable def gE (a : Gt) : Int := if a.Ok then 0 else 2
theorem gE_ok {a : Gt} (h : a.Ok) : gE a = 0 := by unfold gE; rw [if_pos h]
theorem gE_no {a : Gt} (h : ¬ a.Ok) : gE a = 2 := by unfold gE; rw [if_neg h]
theorem dE1 {t : Dt} : dE [t] = 0 ↔ t.Ok := by
  constructor
  · intro h
    by_cases hn : t.Ok
    · exact hn
    · rw [dE_no (List.mem_singleton.2 rfl) hn] at h; cases h
  · intro h
    exact dE_ok fun u hu => by rw [List.mem_singleton.1 hu]; exact h
theorem eqG_run {g g' k k' : Bool} {s s' r r' : ByteArray} {x x' y y' : Int} {c : Bool} (h : c = true ↔ ((g = g' ∧ s = s' ∧ x = x') ∧ (k = k' ∧ r = r' ∧ y = y'))) (p q : Operand) (w : World) : (do eqGuard .eql 26 p q (.agg #[.bool g, .string s, .int .i64 x, .bool k, .string r, .int .i64 y]) (.agg #[.bool g', .string s', .int .i64 x', .bool k', .string r', .int .i64 y']); binOp .eql 26 (.agg #[.bool g, .string s, .int .i64 x, .bool k, .string r, .int .i64 y]) (.agg #[.bool g', .string s', .int .i64 x', .bool k', .string r', .int .i64 y'])).run Tryz.prog w = .ok (.bool c) w := by
  have hs : s.toList = s'.toList ↔ s = s' := ⟨str_inj, fun h => by rw [h]⟩
  have hr : r.toList = r'.toList ↔ r = r' := ⟨str_inj, fun h => by rw [h]⟩
  go_simp
  cases c with
  | true =>
    obtain ⟨⟨rfl, rfl, rfl⟩, rfl, rfl, rfl⟩ := h.1 rfl
    simp
  | false =>
    have hn : ¬ ((g = g' ∧ s = s' ∧ x = x') ∧ (k = k' ∧ r = r' ∧ y = y')) := fun e => Bool.false_ne_true (h.2 e)
    repeat' split
    all_goals first
      | rfl
      | exact absurd ⟨⟨by assumption, by assumption, by assumption⟩, by assumption, by assumption, by assumption⟩ hn
theorem Gs.ext_iff' {a b : Gs} : ((a.re.g = b.re.g ∧ natS a.re.n = natS b.re.n ∧ a.re.x = b.re.x) ∧ (a.im.g = b.im.g ∧ natS a.im.n = natS b.im.n ∧ a.im.x = b.im.x)) ↔ a = b := by
  rw [Dy.ext_iff', Dy.ext_iff']
  obtain ⟨r, i⟩ := a
  obtain ⟨r', i'⟩ := b
  simp
theorem Dt.ext_iff' {a b : Dt} : (a.g = b.g ∧ a.s = b.s ∧ a.x = b.x) ↔ a = b := by
  obtain ⟨g, n, x⟩ := a
  obtain ⟨g', n', x'⟩ := b
  simp
theorem Gt.ext_iff' {a b : Gt} : ((a.re.g = b.re.g ∧ a.re.s = b.re.s ∧ a.re.x = b.re.x) ∧ (a.im.g = b.im.g ∧ a.im.s = b.im.s ∧ a.im.x = b.im.x)) ↔ a = b := by
  rw [Dt.ext_iff', Dt.ext_iff']
  obtain ⟨r, i⟩ := a
  obtain ⟨r', i'⟩ := b
  simp
section
variable [Env]
theorem optU_eql_t {A B : AV} {a b : Gt} (ha : gval A = a.v) (hb : gval B = b.v) (h : a = b) : OpT Tryz.prog [0, 11, 26] [A, B] (.lit (.bool true)) :=
  opt_bin (op := .eql) rfl fun p q w => by rw [ha, hb]; exact eqG_run (c := true) ⟨fun _ => Gt.ext_iff'.2 h, fun _ => rfl⟩ p q w
theorem optU_eql_f {A B : AV} {a b : Gt} (ha : gval A = a.v) (hb : gval B = b.v) (h : ¬ a = b) : OpT Tryz.prog [0, 11, 26] [A, B] (.lit (.bool false)) :=
  opt_bin (op := .eql) rfl fun p q w => by rw [ha, hb]; exact eqG_run (c := false) ⟨(fun c => by cases c), fun c => absurd (Gt.ext_iff'.1 c) h⟩ p q w
end
end Go.Proofs.YtackmbfbilbopaaGreatDoor
namespace Go.Proofs.YtackmbfbilbopaaGreatDoor
open Go Go.RowKit Nt
def All0 : List Int → Prop
  | [] => True
  | t :: l => t = 0 ∧ All0 l
instance All0.dec : ∀ l, Decidable (All0 l)
  | [] => .isTrue trivial
  | t :: l => @instDecidableAnd _ _ _ (All0.dec l)
end Go.Proofs.YtackmbfbilbopaaGreatDoor
namespace Go.Proofs.YtackmbfbilbopaaGreatDoor
open Go Go.RowKit Nt
@[reducible] noncomputable def GCheck_c_k1 : Know := ⟨[([0, 11, 26], [.agg [.sym 0, .sym 1, .sym 2, .sym 3, .sym 4, .sym 5], .lit (.agg #[.bool false, .string ⟨#[]⟩, .int .i64 0, .bool false, .string ⟨#[]⟩, .int .i64 0])], .lit (.bool true))],
  []⟩
theorem GCheck_c_r1 : @comes GCheck_c_k1 Tryz.prog glT 3000 26 [.agg [.sym 0, .sym 1, .sym 2, .sym 3, .sym 4, .sym 5]] = some (.lit (.int .i64 0)) := by kernel_rfl
@[reducible] noncomputable def GCheck_c_k2 : Know := ⟨[([0, 11, 26], [.agg [.sym 0, .sym 1, .sym 2, .sym 3, .sym 4, .sym 5], .lit (.agg #[.bool false, .string ⟨#[]⟩, .int .i64 0, .bool false, .string ⟨#[]⟩, .int .i64 0])], .lit (.bool false)),
  ([0, 12, 32], [.sym 6, .lit (.int .i64 0)], .lit (.bool false)),
  ([0, 12, 32], [.sym 7, .lit (.int .i64 0)], .lit (.bool false))],
  [(38, [.agg [.sym 0, .sym 1, .sym 2]], .sym 6),
  (38, [.agg [.sym 3, .sym 4, .sym 5]], .sym 7)]⟩
theorem GCheck_c_r2 : @comes GCheck_c_k2 Tryz.prog glT 3000 26 [.agg [.sym 0, .sym 1, .sym 2, .sym 3, .sym 4, .sym 5]] = some (.lit (.int .i64 0)) := by kernel_rfl
@[reducible] noncomputable def GCheck_c_k3 : Know := ⟨[([0, 11, 26], [.agg [.sym 0, .sym 1, .sym 2, .sym 3, .sym 4, .sym 5], .lit (.agg #[.bool false, .string ⟨#[]⟩, .int .i64 0, .bool false, .string ⟨#[]⟩, .int .i64 0])], .lit (.bool false)),
  ([0, 12, 32], [.sym 6, .lit (.int .i64 0)], .lit (.bool false)),
  ([0, 12, 32], [.sym 7, .lit (.int .i64 0)], .lit (.bool true))],
  [(38, [.agg [.sym 0, .sym 1, .sym 2]], .sym 6),
  (38, [.agg [.sym 3, .sym 4, .sym 5]], .sym 7)]⟩
theorem GCheck_c_r3 : @comes GCheck_c_k3 Tryz.prog glT 3000 26 [.agg [.sym 0, .sym 1, .sym 2, .sym 3, .sym 4, .sym 5]] = some (.lit (.int .i64 2)) := by kernel_rfl
@[reducible] noncomputable def GCheck_c_k4 : Know := ⟨[([0, 11, 26], [.agg [.sym 0, .sym 1, .sym 2, .sym 3, .sym 4, .sym 5], .lit (.agg #[.bool false, .string ⟨#[]⟩, .int .i64 0, .bool false, .string ⟨#[]⟩, .int .i64 0])], .lit (.bool false)),
  ([0, 12, 32], [.sym 6, .lit (.int .i64 0)], .lit (.bool true))],
  [(38, [.agg [.sym 0, .sym 1, .sym 2]], .sym 6)]⟩
theorem GCheck_c_r4 : @comes GCheck_c_k4 Tryz.prog glT 3000 26 [.agg [.sym 0, .sym 1, .sym 2, .sym 3, .sym 4, .sym 5]] = some (.lit (.int .i64 2)) := by kernel_rfl
set_option maxRecDepth 100000 in
theorem GCheck_c (a : Gt) (w : World) (hre : a.re.s.size ≤ 9223372036854775807) (him : a.im.s.size ≤ 9223372036854775807) (hG : Globs glT w) : Calls Tryz.prog 26 #[.agg #[.bool a.re.g, .string a.re.s, .int .i64 a.re.x, .bool a.im.g, .string a.im.s, .int .i64 a.im.x]] w fun e w' => e = .returned (.int .i64 (gE a)) ∧ Below w.heap.size w w' := by
  by_cases h1 : a = Gt.zero
  · letI : Env := mkEnv glT [.bool a.re.g, .string a.re.s, .int .i64 a.re.x, .bool a.im.g, .string a.im.s, .int .i64 a.im.x] rfl
    have hops : OpsT Tryz.prog (@Know.ops GCheck_c_k1) := ⟨optU_eql_t (a := a) (b := Gt.zero) rfl Gt.zero_v.symm h1, trivial⟩
    have hcalls : CallsT Tryz.prog (@Know.calls GCheck_c_k1) := trivial
    exact (@sym_ok _ GCheck_c_k1 _ (@KnowOk.of _ GCheck_c_k1 _ hops hcalls) (by kernel_rfl) _ _ _ _ GCheck_c_r1 rfl rfl _ hG).mono fun e w' h => ⟨h.1.trans (show Ending.returned (.int .i64 0) = .returned (.int .i64 (gE a)) from by rw [gE_ok (show a.Ok from h1 ▸ ⟨Dt.zero_Ok, Dt.zero_Ok⟩)]), h.2⟩
  · by_cases h2 : dE [a.re] = 0
    · by_cases h3 : dE [a.im] = 0
      · letI : Env := mkEnv glT [.bool a.re.g, .string a.re.s, .int .i64 a.re.x, .bool a.im.g, .string a.im.s, .int .i64 a.im.x, .int .i64 (dE [a.re]), .int .i64 (dE [a.im])] rfl
        have hops : OpsT Tryz.prog (@Know.ops GCheck_c_k2) := ⟨optU_eql_f (a := a) (b := Gt.zero) rfl Gt.zero_v.symm h1, opt_neq_f rfl rfl h2, opt_neq_f rfl rfl h3, trivial⟩
        have hcalls : CallsT Tryz.prog (@Know.calls GCheck_c_k2) := ⟨callt rfl rfl fun w hG => DCheck_c a.re w hre, callt rfl rfl fun w hG => DCheck_c a.im w him, trivial⟩
        exact (@sym_ok _ GCheck_c_k2 _ (@KnowOk.of _ GCheck_c_k2 _ hops hcalls) (by kernel_rfl) _ _ _ _ GCheck_c_r2 rfl rfl _ hG).mono fun e w' h => ⟨h.1.trans (show Ending.returned (.int .i64 0) = .returned (.int .i64 (gE a)) from by rw [gE_ok ⟨dE1.1 h2, dE1.1 h3⟩]), h.2⟩
      · letI : Env := mkEnv glT [.bool a.re.g, .string a.re.s, .int .i64 a.re.x, .bool a.im.g, .string a.im.s, .int .i64 a.im.x, .int .i64 (dE [a.re]), .int .i64 (dE [a.im])] rfl
        have hops : OpsT Tryz.prog (@Know.ops GCheck_c_k3) := ⟨optU_eql_f (a := a) (b := Gt.zero) rfl Gt.zero_v.symm h1, opt_neq_f rfl rfl h2, opt_neq_t rfl rfl h3, trivial⟩
        have hcalls : CallsT Tryz.prog (@Know.calls GCheck_c_k3) := ⟨callt rfl rfl fun w hG => DCheck_c a.re w hre, callt rfl rfl fun w hG => DCheck_c a.im w him, trivial⟩
        exact (@sym_ok _ GCheck_c_k3 _ (@KnowOk.of _ GCheck_c_k3 _ hops hcalls) (by kernel_rfl) _ _ _ _ GCheck_c_r3 rfl rfl _ hG).mono fun e w' h => ⟨h.1.trans (show Ending.returned (.int .i64 2) = .returned (.int .i64 (gE a)) from by rw [gE_no (fun c => h3 (dE1.2 c.2))]), h.2⟩
    · letI : Env := mkEnv glT [.bool a.re.g, .string a.re.s, .int .i64 a.re.x, .bool a.im.g, .string a.im.s, .int .i64 a.im.x, .int .i64 (dE [a.re])] rfl
      have hops : OpsT Tryz.prog (@Know.ops GCheck_c_k4) := ⟨optU_eql_f (a := a) (b := Gt.zero) rfl Gt.zero_v.symm h1, opt_neq_t rfl rfl h2, trivial⟩
      have hcalls : CallsT Tryz.prog (@Know.calls GCheck_c_k4) := ⟨callt rfl rfl fun w hG => DCheck_c a.re w hre, trivial⟩
      exact (@sym_ok _ GCheck_c_k4 _ (@KnowOk.of _ GCheck_c_k4 _ hops hcalls) (by kernel_rfl) _ _ _ _ GCheck_c_r4 rfl rfl _ hG).mono fun e w' h => ⟨h.1.trans (show Ending.returned (.int .i64 2) = .returned (.int .i64 (gE a)) from by rw [gE_no (fun c => h2 (dE1.2 c.1))]), h.2⟩
end Go.Proofs.YtackmbfbilbopaaGreatDoor
namespace Go.Proofs.YtackmbfbilbopaaGreatDoor
open Go Go.RowKit Nt
def B6 (w : World) (B : Nat) (a : Gt) : Prop := Blk w B 26 #[.bool a.re.g, .string a.re.s, .int .i64 a.re.x, .bool a.im.g, .string a.im.s, .int .i64 a.im.x]
theorem B6.facts {w : World} {B : Nat} {a : Gt} (h : B6 w B a) : B < w.heap.size ∧ w.cell? ⟨B, 0, none⟩ = some (.bool a.re.g) ∧ w.cell? ⟨B, 1, none⟩ = some (.string a.re.s) ∧ w.cell? ⟨B, 2, none⟩ = some (.int .i64 a.re.x) ∧ w.cell? ⟨B, 3, none⟩ = some (.bool a.im.g) ∧ w.cell? ⟨B, 4, none⟩ = some (.string a.im.s) ∧ w.cell? ⟨B, 5, none⟩ = some (.int .i64 a.im.x) ∧ w.frozen? ⟨B, 0, none⟩ = false ∧ w.frozen? ⟨B, 1, none⟩ = false ∧ w.frozen? ⟨B, 2, none⟩ = false ∧ w.frozen? ⟨B, 3, none⟩ = false ∧ w.frozen? ⟨B, 4, none⟩ = false ∧ w.frozen? ⟨B, 5, none⟩ = false :=
  ⟨Blk.lt h, (Blk.cell h 0).trans rfl, (Blk.cell h 1).trans rfl, (Blk.cell h 2).trans rfl, (Blk.cell h 3).trans rfl, (Blk.cell h 4).trans rfl, (Blk.cell h 5).trans rfl, Blk.frozen h 0, Blk.frozen h 1, Blk.frozen h 2, Blk.frozen h 3, Blk.frozen h 4, Blk.frozen h 5⟩
def GB (w : World) (a : Gt) (W : World) : Prop := Below w.heap.size w W ∧ B6 W w.heap.size a
theorem GB.start (w : World) (a : Gt) : GB w a (w.alloc (.cells #[.bool a.re.g, .string a.re.s, .int .i64 a.re.x, .bool a.im.g, .string a.im.s, .int .i64 a.im.x] 26)) := ⟨(Below.refl _ _).alloc (Nat.le_refl _) _, Blk.new w _ _⟩
theorem GB.step {w : World} {a : Gt} {W W' : World} (h : GB w a W) (hb : Below W.heap.size W W') : GB w a W' := ⟨below_then h.1 hb, Blk.below h.2 hb (Blk.lt h.2)⟩
theorem GB.more {w : World} {a : Gt} {W : World} (h : GB w a W) (o : Obj) : GB w a (W.alloc o) := h.step ((Below.refl _ _).alloc (Nat.le_refl _) _)
theorem rMayT_c (a : Dt) (w : World) (hs : a.s.size ≤ 9223372036854775807) (m : Bool) (hm : m = true ↔ a.Ok) : Calls Tryz.prog 37 #[.agg #[.bool a.g, .string a.s, .int .i64 a.x]] w fun e w' => e = .returned (.bool m) ∧ Below w.heap.size w w' := by
  cases m with
  | true =>
    obtain ⟨d, hd, e⟩ := Dt.dy (hm.1 rfl)
    have e1 : a.g = d.g := congrArg Dt.g e
    have e2 : a.s = natS d.n := congrArg Dt.s e
    have e3 : a.x = d.x := congrArg Dt.x e
    rw [e1, e2, e3]; exact rMayT_ok d w hd
  | false => exact rMay3_bad _ _ _ w hs (fun c => Bool.false_ne_true (hm.2 c))
set_option maxRecDepth 100000 in
set_option maxHeartbeats 4000000 in
theorem rMay6_c (a : Gt) (w : World) (hs : a.Small) (m k : Bool) (hm : m = true ↔ a.re.Ok) (hk : k = true ↔ a.im.Ok) : Calls Tryz.prog 24 #[.agg #[.bool a.re.g, .string a.re.s, .int .i64 a.re.x, .bool a.im.g, .string a.im.s, .int .i64 a.im.x]] w fun e w' => e = .returned (.bool (m && k)) ∧ Below w.heap.size w w' := by
  have K1 := Lib.hid (fun w => rMayT_c a.re w hs.1 m hm)
  have K2 := Lib.hid (fun w => rMayT_c a.im w hs.2 k hk)
  have T0 := GB.start w a
  obtain ⟨r0, r1, r2, r3, r4, r5, r6, r7, r8, r9, r10, r11, r12⟩ := T0.2.facts
  clear hm hk hs
  cases m
  · go_enter Tryz.func24, Tryz.ntmps24
    go_wp2_with (first | (go_at_call 37; (with_reducible refine (K1.out _).mono ?_); rintro ee w1 ⟨rfl, hb⟩; replace T0 := T0.step hb; clear hb r0 r1 r2 r3 r4 r5 r6 r7 r8 r9 r10 r11 r12; obtain ⟨r0, r1, r2, r3, r4, r5, r6, r7, r8, r9, r10, r11, r12⟩ := T0.2.facts))
    go_ret
    exact ⟨rfl, T0.1⟩
  · go_enter Tryz.func24, Tryz.ntmps24
    go_wp2_with (first | (go_at_call 37; (with_reducible refine (K1.out _).mono ?_); rintro ee w1 ⟨rfl, hb⟩; replace T0 := T0.step hb; clear hb r0 r1 r2 r3 r4 r5 r6 r7 r8 r9 r10 r11 r12; obtain ⟨r0, r1, r2, r3, r4, r5, r6, r7, r8, r9, r10, r11, r12⟩ := T0.2.facts) | (go_at_call 37; (with_reducible refine (K2.out _).mono ?_); rintro ee w1 ⟨rfl, hb⟩; replace T0 := T0.step hb; clear hb r0 r1 r2 r3 r4 r5 r6 r7 r8 r9 r10 r11 r12; obtain ⟨r0, r1, r2, r3, r4, r5, r6, r7, r8, r9, r10, r11, r12⟩ := T0.2.facts))
    go_ret
    exact ⟨rfl, T0.1⟩
end Go.Proofs.YtackmbfbilbopaaGreatDoor
namespace Go.Proofs.YtackmbfbilbopaaGreatDoor
open Go Go.RowKit
end Go.Proofs.YtackmbfbilbopaaGreatDoor
namespace Go.Proofs.YtackmbfbilbopaaGreatDoor
open Go Go.RowKit Nt
@[irreducible] def hz (z x : Int) : Dy := mkD (decide (z < 0)) z.natAbs x
section
variable [Env]
end
section
variable [Env]
end
section
variable [Env]
end
end Go.Proofs.YtackmbfbilbopaaGreatDoor
namespace Go.Proofs.YtackmbfbilbopaaGreatDoor
open Go Go.RowKit Nt
@[irreducible] def hT (x : Int) : Int := ((2 ^ (x - 1 + (EE : Int)).toNat : Nat) : Int)
end Go.Proofs.YtackmbfbilbopaaGreatDoor
namespace Go.Proofs.YtackmbfbilbopaaGreatDoor
open Go Go.RowKit Nt
def StV (w W : World) : Prop := Below w.heap.size w W
theorem StV.step {w W W' : World} (h : StV w W) (hb : Below W.heap.size W W') : StV w W' := below_chain h hb
theorem StV.drew {w W : World} (h : StV w W) : StV w W.drew := Below.drew h
theorem StV.drawn {w W : World} (h : StV w W) (n : Nat) : StV w (W.drewN n) := below_drewN h n
set_option maxRecDepth 100000 in
theorem within_c (n l h : Int) (b : Bool) (hb : b = true ↔ l ≤ n ∧ n ≤ h) (w : World) : Calls Tryz.prog 27 #[.int .i64 n, .int .i64 l, .int .i64 h] w fun e w' => e = .returned (.bool b) ∧ w = w' := by
  by_cases h1 : l ≤ n
  · have e : b = decide (n ≤ h) := by
      rw [Bool.eq_iff_iff, hb, decide_eq_true_iff]
      exact ⟨fun c => c.2, fun c => ⟨h1, c⟩⟩
    subst e
    clear hb
    go_enter Tryz.func27, Tryz.ntmps27
    go_wp2_with fail
    go_ret
    exact ⟨rfl, rfl⟩
  · have e : b = false := Bool.eq_false_iff.2 (fun c => h1 (hb.1 c).1)
    subst e
    have h2 : decide (l ≤ n) = false := decide_eq_false h1
    clear hb
    go_enter Tryz.func27, Tryz.ntmps27
    go_wp2_with fail
    go_ret
    exact ⟨rfl, rfl⟩
end Go.Proofs.YtackmbfbilbopaaGreatDoor
namespace Go.Proofs.YtackmbfbilbopaaGreatDoor
open Go Go.RowKit Nt
structure WinT where
  c : Gt
  e : Int
  a : Int
  d : Int
def WinT.Ok (t : WinT) : Prop := t.c.Ok ∧ (-4096 ≤ t.e ∧ t.e ≤ 4096) ∧ (1 ≤ t.a ∧ t.a ≤ 65536) ∧ (1 ≤ t.d ∧ t.d ≤ 65536)
def Bx9 (w : World) (B : Nat) (t : WinT) : Prop := Blk w B 28 #[.bool t.c.re.g, .string t.c.re.s, .int .i64 t.c.re.x, .bool t.c.im.g, .string t.c.im.s, .int .i64 t.c.im.x, .int .i64 t.e, .int .i64 t.a, .int .i64 t.d]
theorem Bx9.facts {w : World} {B : Nat} {t : WinT} (h : Bx9 w B t) : B < w.heap.size ∧ w.cell? ⟨B, 0, none⟩ = some (.bool t.c.re.g) ∧ w.cell? ⟨B, 1, none⟩ = some (.string t.c.re.s) ∧ w.cell? ⟨B, 2, none⟩ = some (.int .i64 t.c.re.x) ∧ w.cell? ⟨B, 3, none⟩ = some (.bool t.c.im.g) ∧ w.cell? ⟨B, 4, none⟩ = some (.string t.c.im.s) ∧ w.cell? ⟨B, 5, none⟩ = some (.int .i64 t.c.im.x) ∧ w.cell? ⟨B, 6, none⟩ = some (.int .i64 t.e) ∧ w.cell? ⟨B, 7, none⟩ = some (.int .i64 t.a) ∧ w.cell? ⟨B, 8, none⟩ = some (.int .i64 t.d) :=
  ⟨Blk.lt h, (Blk.cell h 0).trans rfl, (Blk.cell h 1).trans rfl, (Blk.cell h 2).trans rfl, (Blk.cell h 3).trans rfl, (Blk.cell h 4).trans rfl, (Blk.cell h 5).trans rfl, (Blk.cell h 6).trans rfl, (Blk.cell h 7).trans rfl, (Blk.cell h 8).trans rfl⟩
def WinB (w : World) (t : WinT) (W : World) : Prop := Below w.heap.size w W ∧ Bx9 W w.heap.size t
theorem WinB.start (w : World) (t : WinT) : WinB w t (w.alloc (.cells #[.bool t.c.re.g, .string t.c.re.s, .int .i64 t.c.re.x, .bool t.c.im.g, .string t.c.im.s, .int .i64 t.c.im.x, .int .i64 t.e, .int .i64 t.a, .int .i64 t.d] 28)) := ⟨(Below.refl _ _).alloc (Nat.le_refl _) _, Blk.new w _ _⟩
theorem WinB.step {w : World} {t : WinT} {W W' : World} (h : WinB w t W) (hb : Below W.heap.size W W') : WinB w t W' := ⟨below_then h.1 hb, Blk.below h.2 hb (Blk.lt h.2)⟩
theorem WinB.more {w : World} {t : WinT} {W : World} (h : WinB w t W) (o : Obj) : WinB w t (W.alloc o) := h.step ((Below.refl _ _).alloc (Nat.le_refl _) _)
open Classical in
@[irreducible] noncomputable def wE (t : WinT) : Int := if t.Ok then 0 else 240
theorem wE_ok {t : WinT} (h : t.Ok) : wE t = 0 := by unfold wE; rw [if_pos h]
theorem wE_no {t : WinT} (h : ¬ t.Ok) : wE t = 240 := by unfold wE; rw [if_neg h]
set_option maxRecDepth 100000 in
set_option maxHeartbeats 4000000 in
theorem VCheck_w (t : WinT) (ge r : Int) (b1 b2 b3 : Bool) (w : World) (hG : Globs glT w)
    (KC : ∀ w, Globs glT w → Calls Tryz.prog 26 #[.agg #[.bool t.c.re.g, .string t.c.re.s, .int .i64 t.c.re.x, .bool t.c.im.g, .string t.c.im.s, .int .i64 t.c.im.x]] w fun e w' => e = .returned (.int .i64 ge) ∧ Below w.heap.size w w')
    (h1 : b1 = true ↔ -4096 ≤ t.e ∧ t.e ≤ 4096) (h2 : b2 = true ↔ 1 ≤ t.a ∧ t.a ≤ 65536) (h3 : b3 = true ↔ 1 ≤ t.d ∧ t.d ≤ 65536)
    (h : (¬ ge = 0 ∧ r = 240) ∨ (ge = 0 ∧ b1 = false ∧ r = 240) ∨ (ge = 0 ∧ b1 = true ∧ b2 = false ∧ r = 240) ∨ (ge = 0 ∧ b1 = true ∧ b2 = true ∧ b3 = false ∧ r = 240) ∨ (ge = 0 ∧ b1 = true ∧ b2 = true ∧ b3 = true ∧ r = 0)) :
    Calls Tryz.prog 17 #[.agg #[.bool t.c.re.g, .string t.c.re.s, .int .i64 t.c.re.x, .bool t.c.im.g, .string t.c.im.s, .int .i64 t.c.im.x, .int .i64 t.e, .int .i64 t.a, .int .i64 t.d]] w fun e w' => e = .returned (.int .i64 r) ∧ Below w.heap.size w w' := by
  have K1 := Lib.hid KC
  have K2 := Lib.hid (fun w => within_c t.e (-4096) 4096 b1 h1 w)
  have K3 := Lib.hid (fun w => within_c t.a 1 65536 b2 h2 w)
  have K4 := Lib.hid (fun w => within_c t.d 1 65536 b3 h3 w)
  have HG := Lib.hid hG
  have T0 := WinB.start w t
  clear KC h1 h2 h3 hG
  obtain ⟨r0, r1, r2, r3, r4, r5, r6, r7, r8, r9⟩ := T0.2.facts
  rcases h with ⟨c, rfl⟩ | ⟨rfl, rfl, rfl⟩ | ⟨rfl, rfl, rfl, rfl⟩ | ⟨rfl, rfl, rfl, rfl, rfl⟩ | ⟨rfl, rfl, rfl, rfl, rfl⟩
  case' inl =>
    have q1 : (ge == 0) = false := beq_eq_false_iff_ne.2 c
    have q2 : (ge != 0) = true := by rw [bne, q1]; rfl
  all_goals
    go_enter Tryz.func17, Tryz.ntmps17
    go_wp2_with (first | (go_at_call 26; have HK := K1.out _ (HG.out.below T0.1 (Nat.le_refl _)); (with_reducible refine HK.mono ?_); clear HK; rintro ee w1 ⟨rfl, hb⟩; replace T0 := T0.step hb; clear hb r0 r1 r2 r3 r4 r5 r6 r7 r8 r9; obtain ⟨r0, r1, r2, r3, r4, r5, r6, r7, r8, r9⟩ := T0.2.facts) | (go_at_call 27; (with_reducible refine (K2.out _).mono ?_); rintro ee w1 ⟨rfl, rfl⟩) | (go_at_call 27; (with_reducible refine (K3.out _).mono ?_); rintro ee w1 ⟨rfl, rfl⟩) | (go_at_call 27; (with_reducible refine (K4.out _).mono ?_); rintro ee w1 ⟨rfl, rfl⟩))
    go_ret
    exact ⟨rfl, T0.1⟩
open Classical in
theorem VCheck_c (t : WinT) (w : World) (hs : t.c.Small) (hG : Globs glT w) : Calls Tryz.prog 17 #[.agg #[.bool t.c.re.g, .string t.c.re.s, .int .i64 t.c.re.x, .bool t.c.im.g, .string t.c.im.s, .int .i64 t.c.im.x, .int .i64 t.e, .int .i64 t.a, .int .i64 t.d]] w fun e w' => e = .returned (.int .i64 (wE t)) ∧ Below w.heap.size w w' := by
  obtain ⟨b1, h1⟩ : ∃ b : Bool, b = true ↔ -4096 ≤ t.e ∧ t.e ≤ 4096 := ⟨decide _, decide_eq_true_iff⟩
  obtain ⟨b2, h2⟩ : ∃ b : Bool, b = true ↔ 1 ≤ t.a ∧ t.a ≤ 65536 := ⟨decide _, decide_eq_true_iff⟩
  obtain ⟨b3, h3⟩ : ∃ b : Bool, b = true ↔ 1 ≤ t.d ∧ t.d ≤ 65536 := ⟨decide _, decide_eq_true_iff⟩
  refine VCheck_w t (gE t.c) (wE t) b1 b2 b3 w hG (fun w hG => GCheck_c t.c w hs.1 hs.2 hG) h1 h2 h3 ?_
  by_cases hc : t.c.Ok
  · rw [gE_ok hc]
    cases b1 with
    | false => exact Or.inr (Or.inl ⟨rfl, rfl, wE_no (fun c => Bool.false_ne_true (h1.2 c.2.1))⟩)
    | true => cases b2 with
      | false => exact Or.inr (Or.inr (Or.inl ⟨rfl, rfl, rfl, wE_no (fun c => Bool.false_ne_true (h2.2 c.2.2.1))⟩))
      | true => cases b3 with
        | false => exact Or.inr (Or.inr (Or.inr (Or.inl ⟨rfl, rfl, rfl, rfl, wE_no (fun c => Bool.false_ne_true (h3.2 c.2.2.2))⟩)))
        | true => exact Or.inr (Or.inr (Or.inr (Or.inr ⟨rfl, rfl, rfl, rfl, wE_ok ⟨hc, h1.1 rfl, h2.1 rfl, h3.1 rfl⟩⟩)))
  · rw [gE_no hc]
    exact Or.inl ⟨by decide, wE_no (fun c => hc c.1)⟩
set_option maxRecDepth 100000 in
set_option maxHeartbeats 4000000 in
theorem side_c (n : Int) (b : Bool) (hb : b = true ↔ -4096 ≤ n ∧ n ≤ 4096) (w : World) : Calls Tryz.prog 25 #[.int .i64 n] w fun e w' => e = .returned (.bool b) ∧ w = w' := by
  by_cases h1 : -4096 ≤ n
  · have e : b = decide (n ≤ 4096) := by
      rw [Bool.eq_iff_iff, hb, decide_eq_true_iff]
      exact ⟨fun c => c.2, fun c => ⟨h1, c⟩⟩
    subst e
    clear hb
    go_enter Tryz.func25, Tryz.ntmps25
    go_wp2_with fail
    go_ret
    exact ⟨rfl, rfl⟩
  · have e : b = false := Bool.eq_false_iff.2 (fun c => h1 (hb.1 c).1)
    subst e
    have h2 : decide (-4096 ≤ n) = false := decide_eq_false h1
    clear hb
    go_enter Tryz.func25, Tryz.ntmps25
    go_wp2_with fail
    go_ret
    exact ⟨rfl, rfl⟩
set_option maxRecDepth 100000 in
set_option maxHeartbeats 4000000 in
theorem rMay24_w (t : WinT) (m b1 r : Bool) (w : World)
    (KC : ∀ w, Calls Tryz.prog 24 #[.agg #[.bool t.c.re.g, .string t.c.re.s, .int .i64 t.c.re.x, .bool t.c.im.g, .string t.c.im.s, .int .i64 t.c.im.x]] w fun e w' => e = .returned (.bool m) ∧ Below w.heap.size w w')
    (h1 : b1 = true ↔ -4096 ≤ t.e ∧ t.e ≤ 4096)
    (h : (m = false ∧ r = false) ∨ (m = true ∧ b1 = false ∧ r = false) ∨ (m = true ∧ b1 = true ∧ t.a < 1 ∧ r = false) ∨ (m = true ∧ b1 = true ∧ 1 ≤ t.a ∧ 65536 < t.a ∧ r = false) ∨ (m = true ∧ b1 = true ∧ 1 ≤ t.a ∧ t.a ≤ 65536 ∧ t.d < 1 ∧ r = false) ∨ (m = true ∧ b1 = true ∧ 1 ≤ t.a ∧ t.a ≤ 65536 ∧ 1 ≤ t.d ∧ 65536 < t.d ∧ r = false) ∨ (m = true ∧ b1 = true ∧ 1 ≤ t.a ∧ t.a ≤ 65536 ∧ 1 ≤ t.d ∧ t.d ≤ 65536 ∧ r = true)) :
    Calls Tryz.prog 14 #[.agg #[.bool t.c.re.g, .string t.c.re.s, .int .i64 t.c.re.x, .bool t.c.im.g, .string t.c.im.s, .int .i64 t.c.im.x, .int .i64 t.e, .int .i64 t.a, .int .i64 t.d]] w fun e w' => e = .returned (.bool r) ∧ Below w.heap.size w w' := by
  have K1 := Lib.hid KC
  have K2 := Lib.hid (fun w => side_c t.e b1 h1 w)
  have T0 := WinB.start w t
  clear KC h1
  obtain ⟨r0, r1, r2, r3, r4, r5, r6, r7, r8, r9⟩ := T0.2.facts
  rcases h with ⟨rfl, rfl⟩ | ⟨rfl, rfl, rfl⟩ | ⟨rfl, rfl, q1, rfl⟩ | ⟨rfl, rfl, q1, q2, rfl⟩ | ⟨rfl, rfl, q1, q2, q3, rfl⟩ | ⟨rfl, rfl, q1, q2, q3, q4, rfl⟩ | ⟨rfl, rfl, q1, q2, q3, q4, rfl⟩
  case' inr.inr.inl => have p1 : decide (1 ≤ t.a) = false := decide_eq_false (by omega)
  case' inr.inr.inr.inl => have p2 : decide (t.a ≤ 65536) = false := decide_eq_false (by omega)
  case' inr.inr.inr.inr.inl => have p3 : decide (1 ≤ t.d) = false := decide_eq_false (by omega)
  case' inr.inr.inr.inr.inr.inl => have p4 : decide (t.d ≤ 65536) = false := decide_eq_false (by omega)
  all_goals
    go_enter Tryz.func14, Tryz.ntmps14
    go_wp2_with (first | (go_at_call 24; (with_reducible refine (K1.out _).mono ?_); rintro ee w1 ⟨rfl, hb⟩; replace T0 := T0.step hb; clear hb r0 r1 r2 r3 r4 r5 r6 r7 r8 r9; obtain ⟨r0, r1, r2, r3, r4, r5, r6, r7, r8, r9⟩ := T0.2.facts) | (go_at_call 25; (with_reducible refine (K2.out _).mono ?_); rintro ee w1 ⟨rfl, rfl⟩))
    go_ret
    first | exact ⟨rfl, T0.1⟩ | exact ⟨by simp [*], T0.1⟩
open Classical in
theorem rMay24_c (t : WinT) (w : World) (hs : t.c.Small) (r : Bool) (hr : r = true ↔ t.Ok) : Calls Tryz.prog 14 #[.agg #[.bool t.c.re.g, .string t.c.re.s, .int .i64 t.c.re.x, .bool t.c.im.g, .string t.c.im.s, .int .i64 t.c.im.x, .int .i64 t.e, .int .i64 t.a, .int .i64 t.d]] w fun e w' => e = .returned (.bool r) ∧ Below w.heap.size w w' := by
  obtain ⟨m, hm⟩ : ∃ b : Bool, b = true ↔ t.c.re.Ok := ⟨decide _, decide_eq_true_iff⟩
  obtain ⟨n, hn⟩ : ∃ b : Bool, b = true ↔ t.c.im.Ok := ⟨decide _, decide_eq_true_iff⟩
  obtain ⟨b1, h1⟩ : ∃ b : Bool, b = true ↔ -4096 ≤ t.e ∧ t.e ≤ 4096 := ⟨decide _, decide_eq_true_iff⟩
  have no : ∀ h : ¬ t.Ok, r = false := fun h => Bool.eq_false_iff.2 (fun c => h (hr.1 c))
  refine rMay24_w t (m && n) b1 r w (fun w => rMay6_c t.c w hs m n hm hn) h1 ?_
  by_cases hc : t.c.Ok
  · have e : (m && n) = true := by rw [hm.2 hc.1, hn.2 hc.2]; rfl
    cases b1 with
    | false => exact Or.inr (Or.inl ⟨e, rfl, no (fun c => Bool.false_ne_true (h1.2 c.2.1))⟩)
    | true =>
      by_cases q1 : 1 ≤ t.a
      · by_cases q2 : t.a ≤ 65536
        · by_cases q3 : 1 ≤ t.d
          · by_cases q4 : t.d ≤ 65536
            · exact Or.inr (Or.inr (Or.inr (Or.inr (Or.inr (Or.inr ⟨e, rfl, q1, q2, q3, q4, hr.2 ⟨hc, h1.1 rfl, ⟨q1, q2⟩, q3, q4⟩⟩)))))
            · exact Or.inr (Or.inr (Or.inr (Or.inr (Or.inr (Or.inl ⟨e, rfl, q1, q2, q3, by omega, no (fun c => q4 c.2.2.2.2)⟩)))))
          · exact Or.inr (Or.inr (Or.inr (Or.inr (Or.inl ⟨e, rfl, q1, q2, by omega, no (fun c => q3 c.2.2.2.1)⟩))))
        · exact Or.inr (Or.inr (Or.inr (Or.inl ⟨e, rfl, q1, by omega, no (fun c => q2 c.2.2.1.2)⟩)))
      · exact Or.inr (Or.inr (Or.inl ⟨e, rfl, by omega, no (fun c => q1 c.2.2.1.1)⟩))
  · have e : (m && n) = false := by
      cases m with
      | false => rfl
      | true => cases n with
        | false => rfl
        | true => exact absurd ⟨hm.1 rfl, hn.1 rfl⟩ hc
    exact Or.inl ⟨e, no (fun c => hc c.1)⟩
end Go.Proofs.YtackmbfbilbopaaGreatDoor
namespace Go.Proofs.YtackmbfbilbopaaGreatDoor
open Go Go.RowKit Nt
structure GrT where
  w : WinT
  x : Int
  h : Int
def cel (n o : Int) : Int := (n + o - 1) / o
theorem cel_split {n o : Int} (ho : 1 ≤ o) : ∃ q r, n = o * q + r ∧ 0 ≤ r ∧ r < o ∧ n / o = q ∧ n % o = r := ⟨n / o, n % o, (Int.mul_ediv_add_emod n o).symm, Int.emod_nonneg n (by omega), Int.emod_lt_of_pos n (by omega), rfl, rfl⟩
theorem cel_eq {n o : Int} (ho : 1 ≤ o) : n / o + min 1 (n % o) = cel n o := by
  obtain ⟨q, r, e, h1, h2, e1, e2⟩ := cel_split (n := n) ho
  rw [e1, e2]
  unfold cel
  by_cases c : r = 0
  · have := ((Int.ediv_emod_unique (a := n + o - 1) (b := o) (q := q) (r := o - 1) (by omega)).2 ⟨by omega, by omega, by omega⟩).1
    rw [this]; omega
  · have hm : o * (q + 1) = o * q + o := by rw [Int.mul_add, Int.mul_one]
    have := ((Int.ediv_emod_unique (a := n + o - 1) (b := o) (q := q + 1) (r := r - 1) (by omega)).2 ⟨by omega, by omega, by omega⟩).1
    rw [this]; omega
theorem cel_b {n o : Int} (hn : 1 ≤ n) (ho : 1 ≤ o) : 1 ≤ cel n o ∧ cel n o ≤ n ∧ o * cel n o ≤ n + o - 1 := by
  have h := Int.mul_ediv_add_emod (n + o - 1) o
  have h1 := Int.emod_nonneg (n + o - 1) (show o ≠ 0 by omega)
  have h2 := Int.emod_lt_of_pos (n + o - 1) (show 0 < o by omega)
  have h3 : cel n o = (n + o - 1) / o := rfl
  rw [← h3] at h
  generalize (n + o - 1) % o = r at *
  refine ⟨?_, ?_, by omega⟩
  · refine Int.not_lt.1 fun c => ?_
    have : o * cel n o ≤ o * 0 := Int.mul_le_mul_of_nonneg_left (by omega) (by omega)
    omega
  · refine Int.not_lt.1 fun c => ?_
    have h4 : o * (n + 1) ≤ o * cel n o := Int.mul_le_mul_of_nonneg_left (by omega) (by omega)
    have h5 : 1 * n ≤ o * n := Int.mul_le_mul_of_nonneg_right ho (by omega)
    rw [Int.mul_add, Int.mul_one] at h4
    omega
def GrT.A (G : GrT) : Int := cel G.w.a G.x
def GrT.D (G : GrT) : Int := cel G.w.d G.h
def GrT.Wide (G : GrT) : Prop := 1 ≤ G.x ∧ 1 ≤ G.h ∧ G.x ≤ 65536 ∧ G.h ≤ 65536 ∧ G.x * G.h ≤ 65536
def GrT.Fit (G : GrT) : Prop := G.Wide ∧ G.A * G.D ≤ 65536
def GrT.Ok (G : GrT) : Prop := G.w.Ok ∧ G.Fit
open Classical in
@[irreducible] noncomputable def gdE (G : GrT) : Int := if G.w.Ok then (if G.Fit then 0 else 2) else 240
theorem gdE_w {G : GrT} (h : ¬ G.w.Ok) : gdE G = 240 := by unfold gdE; rw [if_neg h]
theorem gdE_ok {G : GrT} (h : G.Ok) : gdE G = 0 := by unfold gdE; rw [if_pos h.1, if_pos h.2]
theorem gdE_no {G : GrT} (h : G.w.Ok) (h2 : ¬ G.Fit) : gdE G = 2 := by unfold gdE; rw [if_pos h, if_neg h2]
theorem gdE_nz {G : GrT} (h : ¬ G.Ok) : gdE G = 240 ∨ gdE G = 2 := by
  by_cases c : G.w.Ok
  · exact Or.inr (gdE_no c fun k => h ⟨c, k⟩)
  · exact Or.inl (gdE_w c)
def GrT.rX (G : GrT) (k : Int) : Int := k % G.A * G.x
def GrT.rY (G : GrT) (k : Int) : Int := k / G.A * G.h
def GrT.rA (G : GrT) (k : Int) : Int := min G.x (G.w.a - G.rX k)
def GrT.rD (G : GrT) (k : Int) : Int := min G.h (G.w.d - G.rY k)
theorem GrT.ad {G : GrT} (hw : G.w.Ok) (hx : G.Wide) : (1 ≤ G.A ∧ G.A ≤ 65536 ∧ G.x * G.A ≤ G.w.a + G.x - 1) ∧ (1 ≤ G.D ∧ G.D ≤ 65536 ∧ G.h * G.D ≤ G.w.d + G.h - 1) := by
  obtain ⟨_, _, ha, hd⟩ := hw
  have h1 := cel_b ha.1 hx.1
  have h2 := cel_b hd.1 hx.2.1
  unfold GrT.A GrT.D
  exact ⟨⟨h1.1, by omega, h1.2.2⟩, h2.1, by omega, h2.2.2⟩
theorem GrT.rc {G : GrT} (hG : G.Ok) {k : Int} (h0 : 0 ≤ k) (hk : k < G.A * G.D) : (0 ≤ k % G.A ∧ k % G.A < G.A ∧ 0 ≤ k / G.A ∧ k / G.A < G.D) ∧ (0 ≤ G.rX k ∧ G.rX k < G.w.a) ∧ (0 ≤ G.rY k ∧ G.rY k < G.w.d) := by
  obtain ⟨⟨a1, a2, a3⟩, d1, d2, d3⟩ := GrT.ad hG.1 hG.2.1
  obtain ⟨x1, x2, _⟩ := hG.2.1
  have m1 := Int.emod_nonneg k (show G.A ≠ 0 by omega)
  have m2 := Int.emod_lt_of_pos k (show 0 < G.A by omega)
  have q1 := Int.ediv_nonneg h0 (show 0 ≤ G.A by omega)
  have q2 : k / G.A < G.D := Int.ediv_lt_of_lt_mul (by omega) (by rw [Int.mul_comm]; exact hk)
  refine ⟨⟨m1, m2, q1, q2⟩, ⟨Int.mul_nonneg m1 (by omega), ?_⟩, Int.mul_nonneg q1 (by omega), ?_⟩
  · have h : k % G.A * G.x ≤ (G.A - 1) * G.x := Int.mul_le_mul_of_nonneg_right (by omega) (by omega)
    rw [Int.sub_mul, Int.one_mul, Int.mul_comm G.A] at h
    show k % G.A * G.x < _
    omega
  · have h : k / G.A * G.h ≤ (G.D - 1) * G.h := Int.mul_le_mul_of_nonneg_right (by omega) (by omega)
    rw [Int.sub_mul, Int.one_mul, Int.mul_comm G.D] at h
    show k / G.A * G.h < _
    omega
theorem with_iff {x y m : Int} (hx : 1 ≤ x) : y ≤ m / x ↔ x * y ≤ m := by
  rw [Int.le_ediv_iff_mul_le (by omega), Int.mul_comm]
def GrT.at (G : GrT) (c r : Int) : Int := r / G.h * G.A + c / G.x
theorem GrT.at_b {G : GrT} (hG : G.Ok) {c r : Int} (h0 : 0 ≤ c) (h1 : 0 ≤ r) (hc : c < G.w.a) (hr : r < G.w.d) : (0 ≤ c / G.x ∧ c / G.x ≤ 65535) ∧ (0 ≤ r / G.h ∧ r / G.h ≤ 65535) ∧ 0 ≤ r / G.h * G.A ∧ r / G.h * G.A ≤ 4294967296 := by
  obtain ⟨⟨a1, a2, a3⟩, d1, d2, d3⟩ := GrT.ad hG.1 hG.2.1
  obtain ⟨x1, x2, _⟩ := hG.2.1
  obtain ⟨_, _, ha, hd⟩ := hG.1
  have c1 := Int.ediv_nonneg h0 (show 0 ≤ G.x by omega)
  have r1 := Int.ediv_nonneg h1 (show 0 ≤ G.h by omega)
  have c2 := Int.ediv_le_self G.x h0
  have r2 := Int.ediv_le_self G.h h1
  have h : r / G.h * G.A ≤ 65535 * G.A := Int.mul_le_mul_of_nonneg_right (by omega) (by omega)
  exact ⟨⟨c1, by omega⟩, ⟨r1, by omega⟩, Int.mul_nonneg r1 (by omega), by omega⟩
end Go.Proofs.YtackmbfbilbopaaGreatDoor
namespace Go.Proofs.YtackmbfbilbopaaGreatDoor
open Go Go.RowKit Nt
def Bx11 (w : World) (B : Nat) (G : GrT) : Prop := Blk w B 30 #[.bool G.w.c.re.g, .string G.w.c.re.s, .int .i64 G.w.c.re.x, .bool G.w.c.im.g, .string G.w.c.im.s, .int .i64 G.w.c.im.x, .int .i64 G.w.e, .int .i64 G.w.a, .int .i64 G.w.d, .int .i64 G.x, .int .i64 G.h]
theorem Bx11.facts {w : World} {B : Nat} {G : GrT} (h : Bx11 w B G) : B < w.heap.size ∧ w.cell? ⟨B, 0, none⟩ = some (.bool G.w.c.re.g) ∧ w.cell? ⟨B, 1, none⟩ = some (.string G.w.c.re.s) ∧ w.cell? ⟨B, 2, none⟩ = some (.int .i64 G.w.c.re.x) ∧ w.cell? ⟨B, 3, none⟩ = some (.bool G.w.c.im.g) ∧ w.cell? ⟨B, 4, none⟩ = some (.string G.w.c.im.s) ∧ w.cell? ⟨B, 5, none⟩ = some (.int .i64 G.w.c.im.x) ∧ w.cell? ⟨B, 6, none⟩ = some (.int .i64 G.w.e) ∧ w.cell? ⟨B, 7, none⟩ = some (.int .i64 G.w.a) ∧ w.cell? ⟨B, 8, none⟩ = some (.int .i64 G.w.d) ∧ w.cell? ⟨B, 9, none⟩ = some (.int .i64 G.x) ∧ w.cell? ⟨B, 10, none⟩ = some (.int .i64 G.h) :=
  ⟨Blk.lt h, (Blk.cell h 0).trans rfl, (Blk.cell h 1).trans rfl, (Blk.cell h 2).trans rfl, (Blk.cell h 3).trans rfl, (Blk.cell h 4).trans rfl, (Blk.cell h 5).trans rfl, (Blk.cell h 6).trans rfl, (Blk.cell h 7).trans rfl, (Blk.cell h 8).trans rfl, (Blk.cell h 9).trans rfl, (Blk.cell h 10).trans rfl⟩
def GrB (w : World) (G : GrT) (W : World) : Prop := Below w.heap.size w W ∧ Bx11 W w.heap.size G
theorem GrB.start (w : World) (G : GrT) : GrB w G (w.alloc (.cells #[.bool G.w.c.re.g, .string G.w.c.re.s, .int .i64 G.w.c.re.x, .bool G.w.c.im.g, .string G.w.c.im.s, .int .i64 G.w.c.im.x, .int .i64 G.w.e, .int .i64 G.w.a, .int .i64 G.w.d, .int .i64 G.x, .int .i64 G.h] 30)) := ⟨(Below.refl _ _).alloc (Nat.le_refl _) _, Blk.new w _ _⟩
theorem GrB.step {w : World} {G : GrT} {W W' : World} (h : GrB w G W) (hb : Below W.heap.size W W') : GrB w G W' := ⟨below_then h.1 hb, Blk.below h.2 hb (Blk.lt h.2)⟩
theorem GrB.more {w : World} {G : GrT} {W : World} (h : GrB w G W) (o : Obj) : GrB w G (W.alloc o) := h.step ((Below.refl _ _).alloc (Nat.le_refl _) _)
theorem nz_i {x : Int} (h : x ≠ 0) : (x == 0) = false ∧ ¬ x = 0 := ⟨beq_eq_false_iff_ne.2 h, h⟩
theorem tq {x y : Int} (hx : 0 ≤ x) : x.tdiv y = x / y := Int.tdiv_eq_ediv_of_nonneg hx
theorem tr {x y : Int} (hx : 0 ≤ x) : x.tmod y = x % y := Int.tmod_eq_emod_of_nonneg hx
set_option maxRecDepth 100000 in
set_option maxHeartbeats 4000000 in
theorem Tcount_c (G : GrT) (hw : G.w.Ok) (hx : G.Wide) (w : World) : Calls Tryz.prog 18 #[.agg #[.bool G.w.c.re.g, .string G.w.c.re.s, .int .i64 G.w.c.re.x, .bool G.w.c.im.g, .string G.w.c.im.s, .int .i64 G.w.c.im.x, .int .i64 G.w.e, .int .i64 G.w.a, .int .i64 G.w.d, .int .i64 G.x, .int .i64 G.h]] w fun e w' => e = .returned (.tuple #[.int .i64 G.A, .int .i64 G.D]) ∧ Below w.heap.size w w' := by
  obtain ⟨⟨a1, a2, a3⟩, d1, d2, d3⟩ := GrT.ad hw hx
  obtain ⟨_, _, ha, hd⟩ := hw
  obtain ⟨x1, x2, x3, x4, x5⟩ := hx
  have T0 := GrB.start w G
  obtain ⟨r0, r1, r2, r3, r4, r5, r6, r7, r8, r9, r10, r11⟩ := T0.2.facts
  obtain ⟨z1, z2⟩ := nz_i (show G.x ≠ 0 by omega)
  obtain ⟨z3, z4⟩ := nz_i (show G.h ≠ 0 by omega)
  have e1 : (G.w.a + G.x - 1).tdiv G.x = G.A := by rw [tq (by omega)]; rfl
  have e2 : (G.w.d + G.h - 1).tdiv G.h = G.D := by rw [tq (by omega)]; rfl
  have s1 : IntKind.i64.wrap (G.w.a + G.x) = G.w.a + G.x := IntWalk.i64_in _ (by omega)
  have s2 : IntKind.i64.wrap (G.w.a + G.x - 1) = G.w.a + G.x - 1 := IntWalk.i64_in _ (by omega)
  have s3 : IntKind.i64.wrap (G.w.d + G.h) = G.w.d + G.h := IntWalk.i64_in _ (by omega)
  have s4 : IntKind.i64.wrap (G.w.d + G.h - 1) = G.w.d + G.h - 1 := IntWalk.i64_in _ (by omega)
  generalize G.A = A at *
  generalize G.D = D at *
  have s5 : IntKind.i64.wrap A = A := IntWalk.i64_in _ (by omega)
  have s6 : IntKind.i64.wrap D = D := IntWalk.i64_in _ (by omega)
  go_enter Tryz.func18, Tryz.ntmps18
  go_wp2_with fail
  go_quiet (fail)
  go_wp2_with fail
  go_ret2
  exact ⟨rfl, below_drewN T0.1 nq⟩
set_option maxRecDepth 100000 in
set_option maxHeartbeats 4000000 in
theorem TCheck_c (G : GrT) (w : World) (hs : G.w.c.Small) (hG : Globs glT w) : Calls Tryz.prog 5 #[.agg #[.bool G.w.c.re.g, .string G.w.c.re.s, .int .i64 G.w.c.re.x, .bool G.w.c.im.g, .string G.w.c.im.s, .int .i64 G.w.c.im.x, .int .i64 G.w.e, .int .i64 G.w.a, .int .i64 G.w.d, .int .i64 G.x, .int .i64 G.h]] w fun e w' => e = .returned (.int .i64 (gdE G)) ∧ Below w.heap.size w w' := by
  have HG := Lib.hid hG
  have T0 := GrB.start w G
  obtain ⟨r0, r1, r2, r3, r4, r5, r6, r7, r8, r9, r10, r11⟩ := T0.2.facts
  have KV := Lib.hid (fun w hG => VCheck_c G.w w hs hG)
  clear hs hG
  by_cases hw : G.w.Ok
  · rw [wE_ok hw] at KV
    have hw2 := hw
    obtain ⟨_, _, ha, hd⟩ := hw2
    by_cases c0 : G.x < 1
    · have E := Lib.hid (gdE_no hw (fun c => absurd c.1.1 (by omega)))
      clear hw
      go_enter Tryz.func5, Tryz.ntmps5
      go_wp2_with (go_at_call 17; have HK := KV.out _ (HG.out.below T0.1 (Nat.le_refl _)); (with_reducible refine HK.mono ?_); clear HK; rintro ee w1 ⟨rfl, hb⟩; replace T0 := T0.step hb; clear hb r0 r1 r2 r3 r4 r5 r6 r7 r8 r9 r10 r11; obtain ⟨r0, r1, r2, r3, r4, r5, r6, r7, r8, r9, r10, r11⟩ := T0.2.facts)
      go_ret
      exact ⟨by rw [E.out]; rfl, T0.1⟩
    by_cases c1 : G.h < 1
    · have E := Lib.hid (gdE_no hw (fun c => absurd c.1.2.1 (by omega)))
      clear hw
      go_enter Tryz.func5, Tryz.ntmps5
      go_wp2_with (go_at_call 17; have HK := KV.out _ (HG.out.below T0.1 (Nat.le_refl _)); (with_reducible refine HK.mono ?_); clear HK; rintro ee w1 ⟨rfl, hb⟩; replace T0 := T0.step hb; clear hb r0 r1 r2 r3 r4 r5 r6 r7 r8 r9 r10 r11; obtain ⟨r0, r1, r2, r3, r4, r5, r6, r7, r8, r9, r10, r11⟩ := T0.2.facts)
      go_ret
      exact ⟨by rw [E.out]; rfl, T0.1⟩
    by_cases c2 : 65536 < G.x
    · have E := Lib.hid (gdE_no hw (fun c => absurd c.1.2.2.1 (by omega)))
      clear hw
      go_enter Tryz.func5, Tryz.ntmps5
      go_wp2_with (go_at_call 17; have HK := KV.out _ (HG.out.below T0.1 (Nat.le_refl _)); (with_reducible refine HK.mono ?_); clear HK; rintro ee w1 ⟨rfl, hb⟩; replace T0 := T0.step hb; clear hb r0 r1 r2 r3 r4 r5 r6 r7 r8 r9 r10 r11; obtain ⟨r0, r1, r2, r3, r4, r5, r6, r7, r8, r9, r10, r11⟩ := T0.2.facts)
      go_ret
      exact ⟨by rw [E.out]; rfl, T0.1⟩
    by_cases c3 : 65536 < G.h
    · have E := Lib.hid (gdE_no hw (fun c => absurd c.1.2.2.2.1 (by omega)))
      clear hw
      go_enter Tryz.func5, Tryz.ntmps5
      go_wp2_with (go_at_call 17; have HK := KV.out _ (HG.out.below T0.1 (Nat.le_refl _)); (with_reducible refine HK.mono ?_); clear HK; rintro ee w1 ⟨rfl, hb⟩; replace T0 := T0.step hb; clear hb r0 r1 r2 r3 r4 r5 r6 r7 r8 r9 r10 r11; obtain ⟨r0, r1, r2, r3, r4, r5, r6, r7, r8, r9, r10, r11⟩ := T0.2.facts)
      go_ret
      exact ⟨by rw [E.out]; rfl, T0.1⟩
    obtain ⟨m, hm⟩ : ∃ m, m = G.x * G.h := ⟨_, rfl⟩
    have m1 : 1 * 1 ≤ G.x * G.h := Int.mul_le_mul (by omega) (by omega) (by omega) (by omega)
    have m2 : G.x * G.h ≤ 65536 * 65536 := Int.mul_le_mul (by omega) (by omega) (by omega) (by omega)
    rw [← hm] at m1 m2
    have hm2 := hm.symm
    have HM := Lib.hid hm
    clear hm
    by_cases c4 : 65536 < m
    · have E := Lib.hid (gdE_no hw (fun c => absurd c.1.2.2.2.2 (by rw [← HM.out]; omega)))
      clear hw
      go_enter Tryz.func5, Tryz.ntmps5
      go_wp2_with (go_at_call 17; have HK := KV.out _ (HG.out.below T0.1 (Nat.le_refl _)); (with_reducible refine HK.mono ?_); clear HK; rintro ee w1 ⟨rfl, hb⟩; replace T0 := T0.step hb; clear hb r0 r1 r2 r3 r4 r5 r6 r7 r8 r9 r10 r11; obtain ⟨r0, r1, r2, r3, r4, r5, r6, r7, r8, r9, r10, r11⟩ := T0.2.facts)
      go_ret
      exact ⟨by rw [E.out]; rfl, T0.1⟩
    have hx : G.Wide := ⟨by omega, by omega, by omega, by omega, by rw [← HM.out]; omega⟩
    have KC := Lib.hid (fun w => Tcount_c G hw hx w)
    obtain ⟨⟨a1, a2, a3⟩, d1, d2, d3⟩ := GrT.ad hw hx
    have HX := Lib.hid hx
    clear hx
    obtain ⟨p, hp⟩ : ∃ p, p = G.A * G.D := ⟨_, rfl⟩
    have p1 : 1 * 1 ≤ G.A * G.D := Int.mul_le_mul (by omega) (by omega) (by omega) (by omega)
    have p2 : G.A * G.D ≤ 65536 * 65536 := Int.mul_le_mul (by omega) (by omega) (by omega) (by omega)
    rw [← hp] at p1 p2
    have hp2 := hp.symm
    by_cases c5 : 65536 < p
    · have E := Lib.hid (gdE_no hw (fun c => absurd c.2 (by rw [← hp]; omega)))
      clear hw hp a3 d3
      go_enter Tryz.func5, Tryz.ntmps5
      go_wp2_with (first | (go_at_call 17; have HK := KV.out _ (HG.out.below T0.1 (Nat.le_refl _)); (with_reducible refine HK.mono ?_); clear HK; rintro ee w1 ⟨rfl, hb⟩; replace T0 := T0.step hb; clear hb r0 r1 r2 r3 r4 r5 r6 r7 r8 r9 r10 r11; obtain ⟨r0, r1, r2, r3, r4, r5, r6, r7, r8, r9, r10, r11⟩ := T0.2.facts) | (go_at_call 18; (with_reducible refine (KC.out _).mono ?_); rintro ee w1 ⟨rfl, hb⟩; replace T0 := T0.step hb; clear hb r0 r1 r2 r3 r4 r5 r6 r7 r8 r9 r10 r11; obtain ⟨r0, r1, r2, r3, r4, r5, r6, r7, r8, r9, r10, r11⟩ := T0.2.facts))
      go_ret
      exact ⟨by rw [E.out]; rfl, T0.1⟩
    · have E := Lib.hid (gdE_ok (G := G) ⟨hw, HX.out, by rw [← hp]; omega⟩)
      clear hw hp a3 d3
      go_enter Tryz.func5, Tryz.ntmps5
      go_wp2_with (first | (go_at_call 17; have HK := KV.out _ (HG.out.below T0.1 (Nat.le_refl _)); (with_reducible refine HK.mono ?_); clear HK; rintro ee w1 ⟨rfl, hb⟩; replace T0 := T0.step hb; clear hb r0 r1 r2 r3 r4 r5 r6 r7 r8 r9 r10 r11; obtain ⟨r0, r1, r2, r3, r4, r5, r6, r7, r8, r9, r10, r11⟩ := T0.2.facts) | (go_at_call 18; (with_reducible refine (KC.out _).mono ?_); rintro ee w1 ⟨rfl, hb⟩; replace T0 := T0.step hb; clear hb r0 r1 r2 r3 r4 r5 r6 r7 r8 r9 r10 r11; obtain ⟨r0, r1, r2, r3, r4, r5, r6, r7, r8, r9, r10, r11⟩ := T0.2.facts))
      go_ret
      exact ⟨by rw [E.out]; rfl, T0.1⟩
  · rw [wE_no hw] at KV
    have E := Lib.hid (gdE_w hw)
    clear hw
    go_enter Tryz.func5, Tryz.ntmps5
    go_wp2_with (go_at_call 17; have HK := KV.out _ (HG.out.below T0.1 (Nat.le_refl _)); (with_reducible refine HK.mono ?_); clear HK; rintro ee w1 ⟨rfl, hb⟩; replace T0 := T0.step hb; clear hb r0 r1 r2 r3 r4 r5 r6 r7 r8 r9 r10 r11; obtain ⟨r0, r1, r2, r3, r4, r5, r6, r7, r8, r9, r10, r11⟩ := T0.2.facts)
    go_ret
    exact ⟨by rw [E.out]; rfl, T0.1⟩
open Classical in
@[irreducible] noncomputable def GrT.cA (G : GrT) : Int := if G.Ok then G.A else 0
open Classical in
@[irreducible] noncomputable def GrT.cD (G : GrT) : Int := if G.Ok then G.D else 0
theorem GrT.c_ok {G : GrT} (h : G.Ok) : G.cA = G.A ∧ G.cD = G.D := by unfold GrT.cA GrT.cD; rw [if_pos h, if_pos h]; exact ⟨rfl, rfl⟩
theorem GrT.c_no {G : GrT} (h : ¬ G.Ok) : G.cA = 0 ∧ G.cD = 0 := by unfold GrT.cA GrT.cD; rw [if_neg h, if_neg h]; exact ⟨rfl, rfl⟩
set_option maxRecDepth 100000 in
set_option maxHeartbeats 4000000 in
theorem TCount_c (G : GrT) (w : World) (hs : G.w.c.Small) (hG : Globs glT w) : Calls Tryz.prog 6 #[.agg #[.bool G.w.c.re.g, .string G.w.c.re.s, .int .i64 G.w.c.re.x, .bool G.w.c.im.g, .string G.w.c.im.s, .int .i64 G.w.c.im.x, .int .i64 G.w.e, .int .i64 G.w.a, .int .i64 G.w.d, .int .i64 G.x, .int .i64 G.h]] w fun e w' => e = .returned (.tuple #[.int .i64 G.cA, .int .i64 G.cD, .int .i64 (gdE G)]) ∧ Below w.heap.size w w' := by
  have HG := Lib.hid hG
  have T0 := GrB.start w G
  obtain ⟨r0, r1, r2, r3, r4, r5, r6, r7, r8, r9, r10, r11⟩ := T0.2.facts
  have KV := Lib.hid (fun w hG => TCheck_c G w hs hG)
  clear hs hG
  by_cases h : G.Ok
  · have KC := Lib.hid (fun w => Tcount_c G h.1 h.2.1 w)
    rw [(GrT.c_ok h).1, (GrT.c_ok h).2]
    rw [gdE_ok h] at KV ⊢
    clear h
    go_enter Tryz.func6, Tryz.ntmps6
    go_wp2_with (first | (go_at_call 5; have HK := KV.out _ (HG.out.below T0.1 (Nat.le_refl _)); (with_reducible refine HK.mono ?_); clear HK; rintro ee w1 ⟨rfl, hb⟩; replace T0 := T0.step hb; clear hb r0 r1 r2 r3 r4 r5 r6 r7 r8 r9 r10 r11; obtain ⟨r0, r1, r2, r3, r4, r5, r6, r7, r8, r9, r10, r11⟩ := T0.2.facts) | (go_at_call 18; (with_reducible refine (KC.out _).mono ?_); rintro ee w1 ⟨rfl, hb⟩; replace T0 := T0.step hb; clear hb r0 r1 r2 r3 r4 r5 r6 r7 r8 r9 r10 r11; obtain ⟨r0, r1, r2, r3, r4, r5, r6, r7, r8, r9, r10, r11⟩ := T0.2.facts))
    go_ret3
    exact ⟨rfl, T0.1⟩
  · rw [(GrT.c_no h).1, (GrT.c_no h).2]
    rcases gdE_nz h with e | e
    all_goals
      rw [e] at KV ⊢
      clear h e
      go_enter Tryz.func6, Tryz.ntmps6
      go_wp2_with (go_at_call 5; have HK := KV.out _ (HG.out.below T0.1 (Nat.le_refl _)); (with_reducible refine HK.mono ?_); clear HK; rintro ee w1 ⟨rfl, hb⟩; replace T0 := T0.step hb; clear hb r0 r1 r2 r3 r4 r5 r6 r7 r8 r9 r10 r11; obtain ⟨r0, r1, r2, r3, r4, r5, r6, r7, r8, r9, r10, r11⟩ := T0.2.facts)
      go_ret3
      exact ⟨rfl, T0.1⟩
end Go.Proofs.YtackmbfbilbopaaGreatDoor
namespace Go.Proofs.YtackmbfbilbopaaGreatDoor
open Go Go.RowKit Nt
theorem Blk.put4r {w : World} {B : Nat} {t : TypeId} {a b c d : Value} (h : Blk w B t #[a, b, c, d]) (a' b' c' d' : Value) : Blk ((((w.setCell ⟨B, 0, none⟩ a').setCell ⟨B, 1, none⟩ b').setCell ⟨B, 2, none⟩ c').setCell ⟨B, 3, none⟩ d') B t #[a', b', c', d'] := (((h.set_ 0 a').set_ 1 b').set_ 2 c').set_ 3 d'
theorem below_put4r {n : Nat} {w W : World} {C : Nat} (hb : Below n w W) (hC : n ≤ C) (a' b' c' d' : Value) : Below n w ((((W.setCell ⟨C, 0, none⟩ a').setCell ⟨C, 1, none⟩ b').setCell ⟨C, 2, none⟩ c').setCell ⟨C, 3, none⟩ d') := (((hb.setCell (p := ⟨C, 0, none⟩) hC _).setCell (p := ⟨C, 1, none⟩) hC _).setCell (p := ⟨C, 2, none⟩) hC _).setCell (p := ⟨C, 3, none⟩) hC _
set_option maxRecDepth 100000 in
set_option maxHeartbeats 4000000 in
theorem Trect_c (G : GrT) (k : Int) (w : World) (hG : G.Ok) (h0 : 0 ≤ k) (hk : k < G.A * G.D) : Calls Tryz.prog 19 #[.agg #[.bool G.w.c.re.g, .string G.w.c.re.s, .int .i64 G.w.c.re.x, .bool G.w.c.im.g, .string G.w.c.im.s, .int .i64 G.w.c.im.x, .int .i64 G.w.e, .int .i64 G.w.a, .int .i64 G.w.d, .int .i64 G.x, .int .i64 G.h], .int .i64 k] w fun e w' => e = .returned (.agg #[.int .i64 (G.rX k), .int .i64 (G.rY k), .int .i64 (G.rA k), .int .i64 (G.rD k)]) ∧ Below w.heap.size w w' := by
  have KC := Lib.hid (fun w => Tcount_c G hG.1 hG.2.1 w)
  obtain ⟨⟨a1, a2, a3⟩, d1, d2, d3⟩ := GrT.ad hG.1 hG.2.1
  obtain ⟨⟨u1, u2, v1, v2⟩, ⟨x6, x7⟩, y6, y7⟩ := GrT.rc hG h0 hk
  obtain ⟨x1, x2, x3, x4, x5⟩ := hG.2.1
  obtain ⟨_, _, ha, hd⟩ := hG.1
  have e1 : k.tmod G.A = k % G.A := tr h0
  have e2 : k.tdiv G.A = k / G.A := tq h0
  have e3 : k % G.A * G.x = G.rX k := rfl
  have e4 : k / G.A * G.h = G.rY k := rfl
  have e5 : G.rA k = min G.x (G.w.a - G.rX k) := rfl
  have e6 : G.rD k = min G.h (G.w.d - G.rY k) := rfl
  obtain ⟨z1, z2⟩ := nz_i (show G.A ≠ 0 by omega)
  rw [e5, e6]
  generalize G.rX k = X at *
  generalize G.rY k = Y at *
  generalize k % G.A = u at *
  generalize k / G.A = v at *
  have T0 := (GrB.start w G).more (.cells #[.int .i64 0, .int .i64 0, .int .i64 0, .int .i64 0] 37)
  obtain ⟨r0, r1, r2, r3, r4, r5, r6, r7, r8, r9, r10, r11⟩ := T0.2.facts
  have B0 := (Blk.new (w.alloc (.cells #[.bool G.w.c.re.g, .string G.w.c.re.s, .int .i64 G.w.c.re.x, .bool G.w.c.im.g, .string G.w.c.im.s, .int .i64 G.w.c.im.x, .int .i64 G.w.e, .int .i64 G.w.a, .int .i64 G.w.d, .int .i64 G.x, .int .i64 G.h] 30)) 37 #[.int .i64 0, .int .i64 0, .int .i64 0, .int .i64 0])
  rw [World.size_alloc] at B0
  have s0 : IntKind.i64.wrap (u) = u := IntWalk.i64_in _ (by omega)
  have s1 : IntKind.i64.wrap (v) = v := IntWalk.i64_in _ (by omega)
  have s2 : IntKind.i64.wrap (X) = X := IntWalk.i64_in _ (by omega)
  have s3 : IntKind.i64.wrap (Y) = Y := IntWalk.i64_in _ (by omega)
  have s4 : IntKind.i64.wrap (G.w.a - X) = G.w.a - X := IntWalk.i64_in _ (by omega)
  have s5 : IntKind.i64.wrap (G.w.d - Y) = G.w.d - Y := IntWalk.i64_in _ (by omega)
  clear hG hk
  generalize G.A = A at *
  generalize G.D = D at *
  go_enter Tryz.func19, Tryz.ntmps19
  go_wp2_with (go_at_call 18; (with_reducible refine (KC.out _).mono ?_); rintro ee w1 ⟨rfl, hb⟩; replace T0 := T0.step hb; replace B0 := B0.below hb B0.lt; clear hb r0 r1 r2 r3 r4 r5 r6 r7 r8 r9 r10 r11; obtain ⟨r0, r1, r2, r3, r4, r5, r6, r7, r8, r9, r10, r11⟩ := T0.2.facts)
  go_quiet (fail)
  replace T0 := T0.step (below_drewN (Below.refl _ _) nq)
  replace B0 := B0.drewN nq
  clear r0 r1 r2 r3 r4 r5 r6 r7 r8 r9 r10 r11
  generalize w1.drewN nq = w2 at *
  obtain ⟨r0, r1, r2, r3, r4, r5, r6, r7, r8, r9, r10, r11⟩ := T0.2.facts
  have b0 := B0.lt
  have b1 := (Blk.cell B0 0).trans (show _ = some (.int .i64 0 : Value) from rfl)
  have b2 := (Blk.cell B0 1).trans (show _ = some (.int .i64 0 : Value) from rfl)
  have b3 := (Blk.cell B0 2).trans (show _ = some (.int .i64 0 : Value) from rfl)
  have b4 := (Blk.cell B0 3).trans (show _ = some (.int .i64 0 : Value) from rfl)
  have f1 := Blk.frozen B0 0
  have f2 := Blk.frozen B0 1
  have f3 := Blk.frozen B0 2
  have f4 := Blk.frozen B0 3
  go_wp2_with fail
  have B1 := Blk.put4r B0 (.int .i64 X) (.int .i64 Y) (.int .i64 (min G.x (G.w.a - X))) (.int .i64 (min G.h (G.w.d - Y)))
  have hb1 := below_put4r (n := w.heap.size) T0.1 (show w.heap.size ≤ w.heap.size + 1 by omega) (.int .i64 X) (.int .i64 Y) (.int .i64 (min G.x (G.w.a - X))) (.int .i64 (min G.h (G.w.d - Y)))
  have y1 := (Blk.cell B1 0).trans (show _ = some (.int .i64 X : Value) from rfl)
  have y2 := (Blk.cell B1 1).trans (show _ = some (.int .i64 Y : Value) from rfl)
  have y3 := (Blk.cell B1 2).trans (show _ = some (.int .i64 (min G.x (G.w.a - X)) : Value) from rfl)
  have y4 := (Blk.cell B1 3).trans (show _ = some (.int .i64 (min G.h (G.w.d - Y)) : Value) from rfl)
  trace_state
  refine bodyPost_ret (v := .agg #[.int .i64 X, .int .i64 Y, .int .i64 (min G.x (G.w.a - X)), .int .i64 (min G.h (G.w.d - Y))]) (by simp [results, Tryz.results19, go_sem, y1, y2, y3, y4]) rfl ⟨rfl, hb1⟩
end Go.Proofs.YtackmbfbilbopaaGreatDoor
namespace Go.Proofs.YtackmbfbilbopaaGreatDoor
open Go Go.RowKit Nt
attribute [local go_sem] Oper.semAt_some
theorem grown_of {W W' : World} (h : Below W.heap.size W W') : W.grownBy W' none := ⟨h.os, h.tape, h.output, h.size, fun k hk _ => h.block k hk⟩
abbrev TK := { k : Nat // k < 4294967296 }
theorem map_snoc {pre : List TK} {x : TK} {k : Nat} (h : pre.map (·.1) = List.range k) (hx : x.1 = k) : (pre ++ [x]).map (·.1) = List.range (k + 1) := by
  rw [List.map_append, h, List.range_succ, ← hx]; rfl
theorem map_len {pre : List TK} {k : Nat} (h : pre.map (·.1) = List.range k) : pre.length = k := by
  have := congrArg List.length h
  simpa using this
set_option maxRecDepth 100000 in
set_option maxHeartbeats 4000000 in
theorem Rects_stops (n0 : Nat) (hn : 1 ≤ n0) (nA nD nG nb N : Nat) (G : GrT) (hG : G.Ok) (hN : G.A * G.D = (N : Nat)) (w : World) (hb1 : nG < nb) (hb2 : nb ≤ w.heap.size) (hAl : nA < w.heap.size) (hDl : nD < w.heap.size) (hA : w.cell? ⟨nA, 0, none⟩ = some (.int .i64 G.A)) (hD : w.cell? ⟨nD, 0, none⟩ = some (.int .i64 G.D)) (hGb : Bx11 w nG G) :
    SeqStopsK Fence.wide n0 Tryz.prog 20 #[.pointer (some ⟨nA, 0, none⟩), .pointer (some ⟨nD, 0, none⟩), .pointer (some ⟨nG, 0, none⟩)] (fun x : TK => #[.int .i64 (x.1 : Nat), .agg #[.int .i64 (G.rX (x.1 : Nat)), .int .i64 (G.rY (x.1 : Nat)), .int .i64 (G.rA (x.1 : Nat)), .int .i64 (G.rD (x.1 : Nat))]]) (Below nb) (fun xs => xs.map (·.1) = List.range N) (fun pre => pre.map (·.1) = List.range pre.length) N w := fun l J Jx W hW hJ hJx hY h0 => by
  have cA := (hW.cell (p := ⟨nA, 0, none⟩) hAl).trans hA
  have cD := (hW.cell (p := ⟨nD, 0, none⟩) hDl).trans hD
  have HGB := Lib.hid (Blk.below hGb hW (by omega))
  have HY := Lib.hid hY
  have H0 := Lib.hid h0
  have HJ := Lib.hid hJ
  have KR := Lib.hid (fun (k : Nat) (hk : k < N) w => Trect_c G (k : Int) w hG (by omega) (by rw [hN]; omega))
  have hN2 := hG.2.2
  obtain ⟨⟨a1, a2, _⟩, d1, d2, _⟩ := GrT.ad hG.1 hG.2.1
  have sN : IntKind.i64.wrap (G.A * G.D) = (N : Int) := by rw [hN]; exact IntWalk.i64_in _ (by omega)
  rw [hN] at hN2
  have hN3 : N ≤ 65536 := by omega
  clear hW hA hD hGb hY h0 hJ hN2
  refine callsIn_of_wp Tryz.func20 rfl trivial ?_ rfl
  simp only [Tryz.ntmps20, List.size_toArray, List.length_cons, List.length_nil, Nat.reduceAdd, Nat.reduceSub, Array.replicate_succ, Array.replicate_zero, List.push_toArray, List.append_toArray, List.nil_append, List.cons_append]
  gi_wp2
  gi_loopw [9] (fun v wr => ∃ (k : Nat) (pre : List TK), v = .int .i64 (k : Nat) ∧ k ≤ N ∧ Hid (pre.map (·.1) = List.range k) ∧ Hid (J pre wr) ∧ Hid (Bx11 wr nG G)) (fun v _ => N - (intOf v).toNat)
  case atStart => exact ⟨0, [], rfl, Nat.zero_le _, Lib.hid rfl, H0, HGB⟩
  case round =>
    obtain ⟨k, pre, rfl, hk, hpm, hJs, hbx⟩ := hrel
    by_cases hlt : k < N
    · have hlt2 : (k : Int) < (N : Int) := by omega
      have hlen : pre.length < N := by rw [map_len hpm.out]; exact hlt
      obtain ⟨xq, hxq⟩ : ∃ x : TK, x.1 = k := ⟨⟨k, by omega⟩, rfl⟩
      have HLEN := Lib.hid hlen
      have HXQ := Lib.hid hxq
      obtain ⟨r0, r1, r2, r3, r4, r5, r6, r7, r8, r9, r10, r11⟩ := hbx.out.facts
      clear hlen hxq
      gi_wp2_with (refine ⟨trivial, ?_⟩; gi_at_call 19; refine ((callsIn_wide (n := _)).2 (KR.out k hlt _)).mono ?_; rintro e w1 ⟨rfl, hb⟩; have HJ1 := HJ.out _ _ _ none hJs.out (grown_of hb) (fun r e => by cases e); have HB1 := Lib.hid (Blk.below hbx.out hb (Blk.lt hbx.out)); obtain ⟨fn, tmps, assign, body, hy, hR⟩ := HY.out pre xq w1 HJ1 HLEN.out; rw [HXQ.out] at hy; clear HJ1 hb r0 r1 r2 r3 r4 r5 r6 r7 r8 r9 r10 r11)
      refine hR.mono ?_
      rintro e W3 (⟨rfl, hJ3, hk3⟩ | ⟨rfl, hJx3⟩)
      · have HJ3 := Lib.hid hJ3
        have HB3 := Lib.hid (Blk.below HB1.out hk3 hb1)
        have HPM := Lib.hid (map_snoc hpm.out HXQ.out)
        clear hJ3 hk3
        gi_wp2
        go_roundw
        case rel => exact ⟨k + 1, pre ++ [xq], by go_num, by omega, HPM, HJ3, HB3⟩
        case measure => simp [intOf]; omega
      · gi_wp2
        refine bodyPost_ret (results_none rfl _ _ _) rfl ?_
        exact ⟨⟨_, rfl⟩, .inr ⟨pre ++ [xq], by rw [map_snoc hpm.out HXQ.out, List.length_append, map_len hpm.out]; rfl, hJx3⟩⟩
    · obtain rfl : k = N := by omega
      gi_wp2
      go_end0
      exact ⟨⟨_, rfl⟩, .inl ⟨pre, hpm.out, hJs.out⟩⟩
end Go.Proofs.YtackmbfbilbopaaGreatDoor
namespace Go.Proofs.YtackmbfbilbopaaGreatDoor
open Go Go.RowKit Nt
theorem drew0 (w : World) : ∃ m, w = w.drewN m := ⟨0, rfl⟩
set_option maxRecDepth 100000 in
set_option maxHeartbeats 4000000 in
theorem rparts_q (n o : Int) (w : World) (hn : 1 ≤ n ∧ n ≤ 65536) (ho : 1 ≤ o ∧ o ≤ 65536) : Calls Tryz.prog 16 #[.int .i64 n, .int .i64 o] w fun e w' => e = .returned (.int .i64 (cel n o)) ∧ ∃ m, w' = w.drewN m := by
  have e1 : n.tdiv o = n / o := tq (by omega)
  have e2 : n.tmod o = n % o := tr (by omega)
  have e3 := cel_eq (n := n) ho.1
  have b1 := cel_b hn.1 ho.1
  obtain ⟨q, r, e, h1, h2, e4, e5⟩ := cel_split (n := n) ho.1
  obtain ⟨z1, z2⟩ := nz_i (show o ≠ 0 by omega)
  rw [← e3] at b1
  rw [← e3]
  have q1 := Int.ediv_nonneg (show 0 ≤ n by omega) (show 0 ≤ o by omega)
  have q2 := Int.ediv_le_self o (show 0 ≤ n by omega)
  rw [e4] at e1 q1 q2 b1 ⊢
  rw [e5] at e2 b1 ⊢
  clear e3 e e4 e5
  obtain ⟨t, ht⟩ : ∃ t, t = q + min 1 r := ⟨_, rfl⟩
  have ht2 := ht.symm
  rw [ht2] at b1 ⊢
  have s0 : IntKind.i64.wrap (q) = q := IntWalk.i64_in _ (by omega)
  have s1 : IntKind.i64.wrap (r) = r := IntWalk.i64_in _ (by omega)
  have s2 : IntKind.i64.wrap (t) = t := IntWalk.i64_in _ (by omega)
  have s9 : IntKind.i64.wrap (q + min 1 r) = t := by rw [← ht, s2]
  clear ht
  go_enter Tryz.func16, Tryz.ntmps16
  go_wp2_with fail
  go_quiet (fail)
  go_wp2_with fail
  go_ret
  exact ⟨rfl, _, rfl⟩
set_option maxRecDepth 100000 in
set_option maxHeartbeats 4000000 in
theorem rwithin_q (x y : Int) (b : Bool) (w : World) (hb : b = true ↔ 1 ≤ x ∧ 1 ≤ y ∧ x ≤ 65536 ∧ x * y ≤ 65536) : Calls Tryz.prog 15 #[.int .i64 x, .int .i64 y, .int .i64 65536] w fun e w' => e = .returned (.bool b) ∧ ∃ m, w' = w.drewN m := by
  by_cases c1 : x < 1
  · have d1 : ¬ 1 ≤ x := by omega
    have d2 : decide (1 ≤ x) = false := decide_eq_false d1
    obtain rfl : b = false := by rw [Bool.eq_iff_iff, hb]; constructor <;> intro c <;> first | (exact absurd c (by decide)) | (exact absurd c.1 (by omega)) | (exact absurd c.2.1 (by omega)) | (exact absurd c.2.2.1 (by omega)) | rfl
    clear hb
    go_enter Tryz.func15, Tryz.ntmps15
    go_wp2_with fail
    go_ret
    exact ⟨rfl, drew0 _⟩
  by_cases c2 : y < 1
  · have d1 : 1 ≤ x := by omega
    have d2 : ¬ 1 ≤ y := by omega
    have d3 : decide (1 ≤ y) = false := decide_eq_false d2
    obtain rfl : b = false := by rw [Bool.eq_iff_iff, hb]; constructor <;> intro c <;> first | (exact absurd c (by decide)) | (exact absurd c.1 (by omega)) | (exact absurd c.2.1 (by omega)) | (exact absurd c.2.2.1 (by omega)) | rfl
    clear hb
    go_enter Tryz.func15, Tryz.ntmps15
    go_wp2_with fail
    go_ret
    exact ⟨rfl, drew0 _⟩
  by_cases c3 : 65536 < x
  · have d1 : 1 ≤ x := by omega
    have d2 : 1 ≤ y := by omega
    have d3 : ¬ x ≤ 65536 := by omega
    have d4 : decide (x ≤ 65536) = false := decide_eq_false d3
    obtain rfl : b = false := by rw [Bool.eq_iff_iff, hb]; constructor <;> intro c <;> first | (exact absurd c (by decide)) | (exact absurd c.1 (by omega)) | (exact absurd c.2.1 (by omega)) | (exact absurd c.2.2.1 (by omega)) | rfl
    clear hb
    go_enter Tryz.func15, Tryz.ntmps15
    go_wp2_with fail
    go_ret
    exact ⟨rfl, drew0 _⟩
  have d1 : 1 ≤ x := by omega
  have d2 : 1 ≤ y := by omega
  have d3 : x ≤ 65536 := by omega
  have e1 : (65536 : Int).tdiv x = 65536 / x := tq (by omega)
  have e2 := with_iff (y := y) (m := 65536) d1
  obtain ⟨z1, z2⟩ := nz_i (show x ≠ 0 by omega)
  have q1 := Int.ediv_nonneg (show (0 : Int) ≤ 65536 by omega) (show 0 ≤ x by omega)
  have q2 := Int.ediv_le_self x (show (0 : Int) ≤ 65536 by omega)
  have hbd : b = decide (y ≤ 65536 / x) := by
    rw [Bool.eq_iff_iff, hb, decide_eq_true_iff, e2]
    exact ⟨fun c => c.2.2.2, fun c => ⟨d1, d2, d3, c⟩⟩
  subst hbd
  clear hb e2
  generalize (65536 : Int) / x = q at *
  have s0 : IntKind.i64.wrap (q) = q := IntWalk.i64_in _ (by omega)
  go_enter Tryz.func15, Tryz.ntmps15
  go_wp2_with fail
  go_ret
  exact ⟨rfl, drew0 _⟩
end Go.Proofs.YtackmbfbilbopaaGreatDoor
namespace Go.Proofs.YtackmbfbilbopaaGreatDoor
open Go Go.RowKit Nt
theorem wide_iff {G : GrT} : (1 ≤ G.x ∧ 1 ≤ G.h ∧ G.x ≤ 65536 ∧ G.x * G.h ≤ 65536) ↔ G.Wide := by
  constructor
  · rintro ⟨h1, h2, h3, h4⟩
    have : 1 * G.h ≤ G.x * G.h := Int.mul_le_mul_of_nonneg_right h1 (by omega)
    exact ⟨h1, h2, h3, by omega, h4⟩
  · rintro ⟨h1, h2, h3, h4, h5⟩
    exact ⟨h1, h2, h3, h5⟩
set_option maxRecDepth 100000 in
set_option maxHeartbeats 4000000 in
theorem rTCheck_c (G : GrT) (w : World) (hs : G.w.c.Small) : Calls Tryz.prog 4 #[.agg #[.bool G.w.c.re.g, .string G.w.c.re.s, .int .i64 G.w.c.re.x, .bool G.w.c.im.g, .string G.w.c.im.s, .int .i64 G.w.c.im.x, .int .i64 G.w.e, .int .i64 G.w.a, .int .i64 G.w.d, .int .i64 G.x, .int .i64 G.h]] w fun e w' => e = .returned (.int .i64 (gdE G)) ∧ Below w.heap.size w w' := by
  have T0 := GrB.start w G
  obtain ⟨r0, r1, r2, r3, r4, r5, r6, r7, r8, r9, r10, r11⟩ := T0.2.facts
  by_cases hw : G.w.Ok
  · have KM := Lib.hid (fun w => rMay24_c G.w w hs true ⟨fun _ => hw, fun _ => rfl⟩)
    by_cases hx : G.Wide
    · have KW := Lib.hid (fun w => rwithin_q G.x G.h true w ⟨fun _ => wide_iff.2 hx, fun _ => rfl⟩)
      obtain ⟨⟨a1, a2, a3⟩, d1, d2, d3⟩ := GrT.ad hw hx
      have KP := Lib.hid (fun w => rparts_q G.w.a G.x w hw.2.2.1 ⟨hx.1, hx.2.2.1⟩)
      have KQ := Lib.hid (fun w => rparts_q G.w.d G.h w hw.2.2.2 ⟨hx.2.1, hx.2.2.2.1⟩)
      have eA : cel G.w.a G.x = G.A := rfl
      have eD : cel G.w.d G.h = G.D := rfl
      rw [eA] at KP
      rw [eD] at KQ
      by_cases hf : G.A * G.D ≤ 65536
      · have KX := Lib.hid (fun w => rwithin_q G.A G.D true w ⟨fun _ => ⟨a1, d1, a2, hf⟩, fun _ => rfl⟩)
        have E := Lib.hid (gdE_ok (G := G) ⟨hw, hx, hf⟩)
        clear hw hx hf hs eA eD
        generalize G.A = A at *
        generalize G.D = D at *
        go_enter Tryz.func4, Tryz.ntmps4
        go_wp2_with (go_at_call 14; (with_reducible refine (KM.out _).mono ?_); rintro ee w1 ⟨rfl, hb⟩; replace T0 := T0.step hb; clear hb r0 r1 r2 r3 r4 r5 r6 r7 r8 r9 r10 r11; obtain ⟨r0, r1, r2, r3, r4, r5, r6, r7, r8, r9, r10, r11⟩ := T0.2.facts)
        go_quiet ((first | (go_at_call 15; with_reducible exact Calls.quiet_of (KW.out _)) | (go_at_call 15; with_reducible exact Calls.quiet_of (KX.out _)) | (go_at_call 16; with_reducible exact Calls.quiet_of (KP.out _)) | (go_at_call 16; with_reducible exact Calls.quiet_of (KQ.out _))))
        replace T0 := T0.step (below_drewN (Below.refl _ _) nq)
        go_wp2_with fail
        go_ret
        exact ⟨by rw [E.out]; rfl, T0.1⟩
      · have KX := Lib.hid (fun w => rwithin_q G.A G.D false w ⟨fun c => absurd c (by decide), fun c => absurd c.2.2.2 hf⟩)
        have E := Lib.hid (gdE_no hw (fun c => hf c.2))
        clear hw hx hf hs eA eD
        generalize G.A = A at *
        generalize G.D = D at *
        go_enter Tryz.func4, Tryz.ntmps4
        go_wp2_with (go_at_call 14; (with_reducible refine (KM.out _).mono ?_); rintro ee w1 ⟨rfl, hb⟩; replace T0 := T0.step hb; clear hb r0 r1 r2 r3 r4 r5 r6 r7 r8 r9 r10 r11; obtain ⟨r0, r1, r2, r3, r4, r5, r6, r7, r8, r9, r10, r11⟩ := T0.2.facts)
        go_quiet ((first | (go_at_call 15; with_reducible exact Calls.quiet_of (KW.out _)) | (go_at_call 15; with_reducible exact Calls.quiet_of (KX.out _)) | (go_at_call 16; with_reducible exact Calls.quiet_of (KP.out _)) | (go_at_call 16; with_reducible exact Calls.quiet_of (KQ.out _))))
        replace T0 := T0.step (below_drewN (Below.refl _ _) nq)
        go_wp2_with fail
        go_ret
        exact ⟨by rw [E.out]; rfl, T0.1⟩
    · have KW := Lib.hid (fun w => rwithin_q G.x G.h false w ⟨fun c => absurd c (by decide), fun c => absurd (wide_iff.1 c) hx⟩)
      have E := Lib.hid (gdE_no hw (fun c => hx c.1))
      clear hw hx hs
      go_enter Tryz.func4, Tryz.ntmps4
      go_wp2_with (go_at_call 14; (with_reducible refine (KM.out _).mono ?_); rintro ee w1 ⟨rfl, hb⟩; replace T0 := T0.step hb; clear hb r0 r1 r2 r3 r4 r5 r6 r7 r8 r9 r10 r11; obtain ⟨r0, r1, r2, r3, r4, r5, r6, r7, r8, r9, r10, r11⟩ := T0.2.facts)
      go_quiet ((go_at_call 15; with_reducible exact Calls.quiet_of (KW.out _)))
      replace T0 := T0.step (below_drewN (Below.refl _ _) nq)
      go_wp2_with fail
      go_ret
      exact ⟨by rw [E.out]; rfl, T0.1⟩
  · have KM := Lib.hid (fun w => rMay24_c G.w w hs false ⟨fun c => absurd c (by decide), fun c => absurd c hw⟩)
    have E := Lib.hid (gdE_w hw)
    clear hw hs
    go_enter Tryz.func4, Tryz.ntmps4
    go_wp2_with (go_at_call 14; (with_reducible refine (KM.out _).mono ?_); rintro ee w1 ⟨rfl, hb⟩; replace T0 := T0.step hb; clear hb r0 r1 r2 r3 r4 r5 r6 r7 r8 r9 r10 r11; obtain ⟨r0, r1, r2, r3, r4, r5, r6, r7, r8, r9, r10, r11⟩ := T0.2.facts)
    go_ret
    exact ⟨by rw [E.out]; rfl, T0.1⟩
set_option maxRecDepth 100000 in
set_option maxHeartbeats 4000000 in
theorem rTCount_c (G : GrT) (w : World) (h : G.Ok) : Calls Tryz.prog 11 #[.agg #[.bool G.w.c.re.g, .string G.w.c.re.s, .int .i64 G.w.c.re.x, .bool G.w.c.im.g, .string G.w.c.im.s, .int .i64 G.w.c.im.x, .int .i64 G.w.e, .int .i64 G.w.a, .int .i64 G.w.d, .int .i64 G.x, .int .i64 G.h]] w fun e w' => e = .returned (.tuple #[.int .i64 G.A, .int .i64 G.D]) ∧ Below w.heap.size w w' := by
  have T0 := GrB.start w G
  obtain ⟨r0, r1, r2, r3, r4, r5, r6, r7, r8, r9, r10, r11⟩ := T0.2.facts
  have KP := Lib.hid (fun w => rparts_q G.w.a G.x w h.1.2.2.1 ⟨h.2.1.1, h.2.1.2.2.1⟩)
  have KQ := Lib.hid (fun w => rparts_q G.w.d G.h w h.1.2.2.2 ⟨h.2.1.2.1, h.2.1.2.2.2.1⟩)
  have eA : cel G.w.a G.x = G.A := rfl
  have eD : cel G.w.d G.h = G.D := rfl
  rw [eA] at KP
  rw [eD] at KQ
  clear eA eD
  clear h
  generalize G.A = A at *
  generalize G.D = D at *
  go_enter Tryz.func11, Tryz.ntmps11
  go_wp2_with fail
  go_quiet ((first | (go_at_call 16; with_reducible exact Calls.quiet_of (KP.out _)) | (go_at_call 16; with_reducible exact Calls.quiet_of (KQ.out _))))
  replace T0 := T0.step (below_drewN (Below.refl _ _) nq)
  go_wp2_with fail
  go_ret2
  exact ⟨rfl, T0.1⟩
set_option maxRecDepth 100000 in
set_option maxHeartbeats 4000000 in
theorem rTAt_in (G : GrT) (c r : Int) (w : World) (h : G.Ok) (hi : 0 ≤ c ∧ 0 ≤ r ∧ c < G.w.a ∧ r < G.w.d) : Calls Tryz.prog 13 #[.agg #[.bool G.w.c.re.g, .string G.w.c.re.s, .int .i64 G.w.c.re.x, .bool G.w.c.im.g, .string G.w.c.im.s, .int .i64 G.w.c.im.x, .int .i64 G.w.e, .int .i64 G.w.a, .int .i64 G.w.d, .int .i64 G.x, .int .i64 G.h], .int .i64 c, .int .i64 r] w fun e w' => e = .returned (.tuple #[.int .i64 (G.at c r), .bool true]) ∧ Below w.heap.size w w' := by
  have T0 := GrB.start w G
  obtain ⟨r0, r1, r2, r3, r4, r5, r6, r7, r8, r9, r10, r11⟩ := T0.2.facts
  have KV := Lib.hid (fun w => rTCount_c G w h)
  have hb1 := GrT.at_b h hi.1 hi.2.1 hi.2.2.1 hi.2.2.2
  have e9 : G.at c r = r / G.h * G.A + c / G.x := rfl
  rw [e9]
  obtain ⟨⟨u1, u2⟩, ⟨v1, v2⟩, p1, p2⟩ := hb1
  obtain ⟨i1, i2, i3, i4⟩ := hi
  have e1 : c.tdiv G.x = c / G.x := tq i1
  have e2 : r.tdiv G.h = r / G.h := tq i2
  obtain ⟨z1, z2⟩ := nz_i (show G.x ≠ 0 by have := h.2.1.1; omega)
  obtain ⟨z3, z4⟩ := nz_i (show G.h ≠ 0 by have := h.2.1.2.1; omega)
  obtain ⟨p, hp⟩ : ∃ p, p = r / G.h * G.A := ⟨_, rfl⟩
  have hp2 := hp.symm
  rw [hp2] at p1 p2
  rw [hp2]
  generalize c / G.x = u at *
  generalize r / G.h = v at *
  have s0 : IntKind.i64.wrap (u) = u := IntWalk.i64_in _ (by omega)
  have s1 : IntKind.i64.wrap (v) = v := IntWalk.i64_in _ (by omega)
  have s2 : IntKind.i64.wrap (p) = p := IntWalk.i64_in _ (by omega)
  have s3 : IntKind.i64.wrap (p + u) = p + u := IntWalk.i64_in _ (by omega)
  have s9 : IntKind.i64.wrap (v * G.A) = p := by rw [hp2]; exact s2
  have c0 : ¬ c < 0 := by omega
  have c1 : ¬ r < 0 := by omega
  have c2 : ¬ G.w.a ≤ c := by omega
  have c3 : ¬ G.w.d ≤ r := by omega
  clear h hp
  generalize G.A = A at *
  generalize G.D = D at *
  go_enter Tryz.func13, Tryz.ntmps13
  go_wp2_with (go_at_call 11; (with_reducible refine (KV.out _).mono ?_); rintro ee w1 ⟨rfl, hb⟩; replace T0 := T0.step hb; clear hb r0 r1 r2 r3 r4 r5 r6 r7 r8 r9 r10 r11; obtain ⟨r0, r1, r2, r3, r4, r5, r6, r7, r8, r9, r10, r11⟩ := T0.2.facts)
  go_quiet (fail)
  replace T0 := T0.step (below_drewN (Below.refl _ _) nq)
  go_wp2_with fail
  go_ret2
  exact ⟨rfl, T0.1⟩
set_option maxRecDepth 100000 in
set_option maxHeartbeats 4000000 in
theorem rTAt_out (G : GrT) (c r : Int) (w : World) (hn : ¬ (0 ≤ c ∧ 0 ≤ r ∧ c < G.w.a ∧ r < G.w.d)) : Calls Tryz.prog 13 #[.agg #[.bool G.w.c.re.g, .string G.w.c.re.s, .int .i64 G.w.c.re.x, .bool G.w.c.im.g, .string G.w.c.im.s, .int .i64 G.w.c.im.x, .int .i64 G.w.e, .int .i64 G.w.a, .int .i64 G.w.d, .int .i64 G.x, .int .i64 G.h], .int .i64 c, .int .i64 r] w fun e w' => e = .returned (.tuple #[.int .i64 0, .bool false]) ∧ Below w.heap.size w w' := by
  have T0 := GrB.start w G
  obtain ⟨r0, r1, r2, r3, r4, r5, r6, r7, r8, r9, r10, r11⟩ := T0.2.facts
  by_cases c0 : c < 0
  · go_enter Tryz.func13, Tryz.ntmps13
    go_wp2_with fail
    go_ret2
    exact ⟨rfl, T0.1⟩
  by_cases c1 : r < 0
  · go_enter Tryz.func13, Tryz.ntmps13
    go_wp2_with fail
    go_ret2
    exact ⟨rfl, T0.1⟩
  by_cases c2 : G.w.a ≤ c
  · go_enter Tryz.func13, Tryz.ntmps13
    go_wp2_with fail
    go_ret2
    exact ⟨rfl, T0.1⟩
  have c3 : G.w.d ≤ r := Int.not_lt.1 fun k => hn ⟨by omega, by omega, by omega, k⟩
  go_enter Tryz.func13, Tryz.ntmps13
  go_wp2_with fail
  go_ret2
  exact ⟨rfl, T0.1⟩
end Go.Proofs.YtackmbfbilbopaaGreatDoor
namespace Go.Proofs.YtackmbfbilbopaaGreatDoor
open Go Go.RowKit Nt
set_option maxRecDepth 100000 in
set_option maxHeartbeats 4000000 in
theorem TAt_no (G : GrT) (c r : Int) (w : World) (hs : G.w.c.Small) (hn : ¬ G.Ok) (hG : Globs glT w) : Calls Tryz.prog 8 #[.agg #[.bool G.w.c.re.g, .string G.w.c.re.s, .int .i64 G.w.c.re.x, .bool G.w.c.im.g, .string G.w.c.im.s, .int .i64 G.w.c.im.x, .int .i64 G.w.e, .int .i64 G.w.a, .int .i64 G.w.d, .int .i64 G.x, .int .i64 G.h], .int .i64 c, .int .i64 r] w fun e w' => e = .returned (.tuple #[.int .i64 0, .int .i64 (gdE G)]) ∧ Below w.heap.size w w' := by
  have HG := Lib.hid hG
  have T0 := GrB.start w G
  obtain ⟨r0, r1, r2, r3, r4, r5, r6, r7, r8, r9, r10, r11⟩ := T0.2.facts
  have KV := Lib.hid (fun w hG => TCount_c G w hs hG)
  clear hs hG
  rw [(GrT.c_no hn).1, (GrT.c_no hn).2] at KV
  rcases gdE_nz hn with e | e
  all_goals
    rw [e] at KV ⊢
    clear hn e
    go_enter Tryz.func8, Tryz.ntmps8
    go_wp2_with (go_at_call 6; have HK := KV.out _ (HG.out.below T0.1 (Nat.le_refl _)); (with_reducible refine HK.mono ?_); clear HK; rintro ee w1 ⟨rfl, hb⟩; replace T0 := T0.step hb; clear hb r0 r1 r2 r3 r4 r5 r6 r7 r8 r9 r10 r11; obtain ⟨r0, r1, r2, r3, r4, r5, r6, r7, r8, r9, r10, r11⟩ := T0.2.facts)
    go_ret2
    exact ⟨rfl, T0.1⟩
set_option maxRecDepth 100000 in
set_option maxHeartbeats 4000000 in
theorem TAt_out (G : GrT) (c r : Int) (w : World) (hs : G.w.c.Small) (h : G.Ok) (hn : ¬ (0 ≤ c ∧ 0 ≤ r ∧ c < G.w.a ∧ r < G.w.d)) (hG : Globs glT w) : Calls Tryz.prog 8 #[.agg #[.bool G.w.c.re.g, .string G.w.c.re.s, .int .i64 G.w.c.re.x, .bool G.w.c.im.g, .string G.w.c.im.s, .int .i64 G.w.c.im.x, .int .i64 G.w.e, .int .i64 G.w.a, .int .i64 G.w.d, .int .i64 G.x, .int .i64 G.h], .int .i64 c, .int .i64 r] w fun e w' => e = .returned (.tuple #[.int .i64 0, .int .i64 241]) ∧ Below w.heap.size w w' := by
  have HG := Lib.hid hG
  have T0 := GrB.start w G
  obtain ⟨r0, r1, r2, r3, r4, r5, r6, r7, r8, r9, r10, r11⟩ := T0.2.facts
  have KV := Lib.hid (fun w hG => TCount_c G w hs hG)
  clear hs hG
  rw [(GrT.c_ok h).1, (GrT.c_ok h).2, gdE_ok h] at KV
  clear h
  by_cases c0 : c < 0
  · go_enter Tryz.func8, Tryz.ntmps8
    go_wp2_with (go_at_call 6; have HK := KV.out _ (HG.out.below T0.1 (Nat.le_refl _)); (with_reducible refine HK.mono ?_); clear HK; rintro ee w1 ⟨rfl, hb⟩; replace T0 := T0.step hb; clear hb r0 r1 r2 r3 r4 r5 r6 r7 r8 r9 r10 r11; obtain ⟨r0, r1, r2, r3, r4, r5, r6, r7, r8, r9, r10, r11⟩ := T0.2.facts)
    go_ret2
    exact ⟨rfl, T0.1⟩
  by_cases c1 : r < 0
  · go_enter Tryz.func8, Tryz.ntmps8
    go_wp2_with (go_at_call 6; have HK := KV.out _ (HG.out.below T0.1 (Nat.le_refl _)); (with_reducible refine HK.mono ?_); clear HK; rintro ee w1 ⟨rfl, hb⟩; replace T0 := T0.step hb; clear hb r0 r1 r2 r3 r4 r5 r6 r7 r8 r9 r10 r11; obtain ⟨r0, r1, r2, r3, r4, r5, r6, r7, r8, r9, r10, r11⟩ := T0.2.facts)
    go_ret2
    exact ⟨rfl, T0.1⟩
  by_cases c2 : G.w.a ≤ c
  · go_enter Tryz.func8, Tryz.ntmps8
    go_wp2_with (go_at_call 6; have HK := KV.out _ (HG.out.below T0.1 (Nat.le_refl _)); (with_reducible refine HK.mono ?_); clear HK; rintro ee w1 ⟨rfl, hb⟩; replace T0 := T0.step hb; clear hb r0 r1 r2 r3 r4 r5 r6 r7 r8 r9 r10 r11; obtain ⟨r0, r1, r2, r3, r4, r5, r6, r7, r8, r9, r10, r11⟩ := T0.2.facts)
    go_ret2
    exact ⟨rfl, T0.1⟩
  have c3 : G.w.d ≤ r := Int.not_lt.1 fun k => hn ⟨by omega, by omega, by omega, k⟩
  go_enter Tryz.func8, Tryz.ntmps8
  go_wp2_with (go_at_call 6; have HK := KV.out _ (HG.out.below T0.1 (Nat.le_refl _)); (with_reducible refine HK.mono ?_); clear HK; rintro ee w1 ⟨rfl, hb⟩; replace T0 := T0.step hb; clear hb r0 r1 r2 r3 r4 r5 r6 r7 r8 r9 r10 r11; obtain ⟨r0, r1, r2, r3, r4, r5, r6, r7, r8, r9, r10, r11⟩ := T0.2.facts)
  go_ret2
  exact ⟨rfl, T0.1⟩
set_option maxRecDepth 100000 in
set_option maxHeartbeats 4000000 in
theorem TAt_in (G : GrT) (c r : Int) (w : World) (hs : G.w.c.Small) (h : G.Ok) (hi : 0 ≤ c ∧ 0 ≤ r ∧ c < G.w.a ∧ r < G.w.d) (hG : Globs glT w) : Calls Tryz.prog 8 #[.agg #[.bool G.w.c.re.g, .string G.w.c.re.s, .int .i64 G.w.c.re.x, .bool G.w.c.im.g, .string G.w.c.im.s, .int .i64 G.w.c.im.x, .int .i64 G.w.e, .int .i64 G.w.a, .int .i64 G.w.d, .int .i64 G.x, .int .i64 G.h], .int .i64 c, .int .i64 r] w fun e w' => e = .returned (.tuple #[.int .i64 (G.at c r), .int .i64 0]) ∧ Below w.heap.size w w' := by
  have HG := Lib.hid hG
  have T0 := GrB.start w G
  obtain ⟨r0, r1, r2, r3, r4, r5, r6, r7, r8, r9, r10, r11⟩ := T0.2.facts
  have KV := Lib.hid (fun w hG => TCount_c G w hs hG)
  clear hs hG
  rw [(GrT.c_ok h).1, (GrT.c_ok h).2, gdE_ok h] at KV
  have hb1 := GrT.at_b h hi.1 hi.2.1 hi.2.2.1 hi.2.2.2
  have e9 : G.at c r = r / G.h * G.A + c / G.x := rfl
  rw [e9]
  obtain ⟨⟨u1, u2⟩, ⟨v1, v2⟩, p1, p2⟩ := hb1
  obtain ⟨i1, i2, i3, i4⟩ := hi
  have e1 : c.tdiv G.x = c / G.x := tq i1
  have e2 : r.tdiv G.h = r / G.h := tq i2
  obtain ⟨z1, z2⟩ := nz_i (show G.x ≠ 0 by have := h.2.1.1; omega)
  obtain ⟨z3, z4⟩ := nz_i (show G.h ≠ 0 by have := h.2.1.2.1; omega)
  obtain ⟨p, hp⟩ : ∃ p, p = r / G.h * G.A := ⟨_, rfl⟩
  have hp2 := hp.symm
  rw [hp2] at p1 p2
  rw [hp2]
  generalize c / G.x = u at *
  generalize r / G.h = v at *
  have s0 : IntKind.i64.wrap (u) = u := IntWalk.i64_in _ (by omega)
  have s1 : IntKind.i64.wrap (v) = v := IntWalk.i64_in _ (by omega)
  have s2 : IntKind.i64.wrap (p) = p := IntWalk.i64_in _ (by omega)
  have s3 : IntKind.i64.wrap (p + u) = p + u := IntWalk.i64_in _ (by omega)
  have s9 : IntKind.i64.wrap (v * G.A) = p := by rw [hp2]; exact s2
  have c0 : ¬ c < 0 := by omega
  have c1 : ¬ r < 0 := by omega
  have c2 : ¬ G.w.a ≤ c := by omega
  have c3 : ¬ G.w.d ≤ r := by omega
  clear h hp
  generalize G.A = A at *
  generalize G.D = D at *
  go_enter Tryz.func8, Tryz.ntmps8
  go_wp2_with (go_at_call 6; have HK := KV.out _ (HG.out.below T0.1 (Nat.le_refl _)); (with_reducible refine HK.mono ?_); clear HK; rintro ee w1 ⟨rfl, hb⟩; replace T0 := T0.step hb; clear hb r0 r1 r2 r3 r4 r5 r6 r7 r8 r9 r10 r11; obtain ⟨r0, r1, r2, r3, r4, r5, r6, r7, r8, r9, r10, r11⟩ := T0.2.facts)
  go_quiet (fail)
  replace T0 := T0.step (below_drewN (Below.refl _ _) nq)
  go_wp2_with fail
  go_ret2
  exact ⟨rfl, T0.1⟩
end Go.Proofs.YtackmbfbilbopaaGreatDoor
namespace Go.Proofs.YtackmbfbilbopaaGreatDoor
open Go Go.RowKit Nt
set_option maxRecDepth 100000 in
set_option maxHeartbeats 4000000 in
theorem TRect_no (G : GrT) (k : Int) (w : World) (hs : G.w.c.Small) (hn : ¬ G.Ok) (hG : Globs glT w) : Calls Tryz.prog 7 #[.agg #[.bool G.w.c.re.g, .string G.w.c.re.s, .int .i64 G.w.c.re.x, .bool G.w.c.im.g, .string G.w.c.im.s, .int .i64 G.w.c.im.x, .int .i64 G.w.e, .int .i64 G.w.a, .int .i64 G.w.d, .int .i64 G.x, .int .i64 G.h], .int .i64 k] w fun e w' => e = .returned (.tuple #[.agg #[.int .i64 0, .int .i64 0, .int .i64 0, .int .i64 0], .int .i64 (gdE G)]) ∧ Below w.heap.size w w' := by
  have HG := Lib.hid hG
  have T0 := (GrB.start w G).more (.cells #[.int .i64 0, .int .i64 0, .int .i64 0, .int .i64 0] 37)
  obtain ⟨r0, r1, r2, r3, r4, r5, r6, r7, r8, r9, r10, r11⟩ := T0.2.facts
  have B0 := (Blk.new (w.alloc (.cells #[.bool G.w.c.re.g, .string G.w.c.re.s, .int .i64 G.w.c.re.x, .bool G.w.c.im.g, .string G.w.c.im.s, .int .i64 G.w.c.im.x, .int .i64 G.w.e, .int .i64 G.w.a, .int .i64 G.w.d, .int .i64 G.x, .int .i64 G.h] 30)) 37 #[.int .i64 0, .int .i64 0, .int .i64 0, .int .i64 0])
  rw [World.size_alloc] at B0
  have b1 := (Blk.cell B0 0).trans (show _ = some (.int .i64 0 : Value) from rfl)
  have b2 := (Blk.cell B0 1).trans (show _ = some (.int .i64 0 : Value) from rfl)
  have b3 := (Blk.cell B0 2).trans (show _ = some (.int .i64 0 : Value) from rfl)
  have b4 := (Blk.cell B0 3).trans (show _ = some (.int .i64 0 : Value) from rfl)
  have f1 := Blk.frozen B0 0
  have f2 := Blk.frozen B0 1
  have f3 := Blk.frozen B0 2
  have f4 := Blk.frozen B0 3
  have b0 := Blk.lt B0
  have KV := Lib.hid (fun w hG => TCount_c G w hs hG)
  clear hs hG
  rw [(GrT.c_no hn).1, (GrT.c_no hn).2] at KV
  rcases gdE_nz hn with e | e
  · rw [e] at KV ⊢
    clear hn e
    go_enter Tryz.func7, Tryz.ntmps7
    go_wp2_with (go_at_call 6; have HK := KV.out _ (HG.out.below T0.1 (Nat.le_refl _)); (with_reducible refine HK.mono ?_); clear HK; rintro ee w1 ⟨rfl, hb⟩; replace T0 := T0.step hb; replace B0 := Blk.below B0 hb (Blk.lt B0); clear hb r0 r1 r2 r3 r4 r5 r6 r7 r8 r9 r10 r11; clear b0 b1 b2 b3 b4 f1 f2 f3 f4; obtain ⟨r0, r1, r2, r3, r4, r5, r6, r7, r8, r9, r10, r11⟩ := T0.2.facts; have b1 := (Blk.cell B0 0).trans (show _ = some (.int .i64 0 : Value) from rfl); have b2 := (Blk.cell B0 1).trans (show _ = some (.int .i64 0 : Value) from rfl); have b3 := (Blk.cell B0 2).trans (show _ = some (.int .i64 0 : Value) from rfl); have b4 := (Blk.cell B0 3).trans (show _ = some (.int .i64 0 : Value) from rfl); have f1 := Blk.frozen B0 0; have f2 := Blk.frozen B0 1; have f3 := Blk.frozen B0 2; have f4 := Blk.frozen B0 3; have b0 := Blk.lt B0)
    have B1 := Blk.put4r B0 (.int .i64 0) (.int .i64 0) (.int .i64 0) (.int .i64 0)
    have hb1 := below_put4r (n := w.heap.size) T0.1 (show w.heap.size ≤ w.heap.size + 1 by omega) (.int .i64 0) (.int .i64 0) (.int .i64 0) (.int .i64 0)
    have y1 := (Blk.cell B1 0).trans (show _ = some (.int .i64 0 : Value) from rfl)
    have y2 := (Blk.cell B1 1).trans (show _ = some (.int .i64 0 : Value) from rfl)
    have y3 := (Blk.cell B1 2).trans (show _ = some (.int .i64 0 : Value) from rfl)
    have y4 := (Blk.cell B1 3).trans (show _ = some (.int .i64 0 : Value) from rfl)
    refine bodyPost_ret (v := .tuple #[.agg #[.int .i64 0, .int .i64 0, .int .i64 0, .int .i64 0], .int .i64 240]) (by simp [results, Tryz.results7, go_sem, y1, y2, y3, y4]) rfl ⟨rfl, hb1⟩
  · rw [e] at KV ⊢
    clear hn e
    go_enter Tryz.func7, Tryz.ntmps7
    go_wp2_with (go_at_call 6; have HK := KV.out _ (HG.out.below T0.1 (Nat.le_refl _)); (with_reducible refine HK.mono ?_); clear HK; rintro ee w1 ⟨rfl, hb⟩; replace T0 := T0.step hb; replace B0 := Blk.below B0 hb (Blk.lt B0); clear hb r0 r1 r2 r3 r4 r5 r6 r7 r8 r9 r10 r11; clear b0 b1 b2 b3 b4 f1 f2 f3 f4; obtain ⟨r0, r1, r2, r3, r4, r5, r6, r7, r8, r9, r10, r11⟩ := T0.2.facts; have b1 := (Blk.cell B0 0).trans (show _ = some (.int .i64 0 : Value) from rfl); have b2 := (Blk.cell B0 1).trans (show _ = some (.int .i64 0 : Value) from rfl); have b3 := (Blk.cell B0 2).trans (show _ = some (.int .i64 0 : Value) from rfl); have b4 := (Blk.cell B0 3).trans (show _ = some (.int .i64 0 : Value) from rfl); have f1 := Blk.frozen B0 0; have f2 := Blk.frozen B0 1; have f3 := Blk.frozen B0 2; have f4 := Blk.frozen B0 3; have b0 := Blk.lt B0)
    have B1 := Blk.put4r B0 (.int .i64 0) (.int .i64 0) (.int .i64 0) (.int .i64 0)
    have hb1 := below_put4r (n := w.heap.size) T0.1 (show w.heap.size ≤ w.heap.size + 1 by omega) (.int .i64 0) (.int .i64 0) (.int .i64 0) (.int .i64 0)
    have y1 := (Blk.cell B1 0).trans (show _ = some (.int .i64 0 : Value) from rfl)
    have y2 := (Blk.cell B1 1).trans (show _ = some (.int .i64 0 : Value) from rfl)
    have y3 := (Blk.cell B1 2).trans (show _ = some (.int .i64 0 : Value) from rfl)
    have y4 := (Blk.cell B1 3).trans (show _ = some (.int .i64 0 : Value) from rfl)
    refine bodyPost_ret (v := .tuple #[.agg #[.int .i64 0, .int .i64 0, .int .i64 0, .int .i64 0], .int .i64 2]) (by simp [results, Tryz.results7, go_sem, y1, y2, y3, y4]) rfl ⟨rfl, hb1⟩
set_option maxRecDepth 100000 in
set_option maxHeartbeats 4000000 in
theorem TRect_out (G : GrT) (k : Int) (w : World) (hs : G.w.c.Small) (h : G.Ok) (hn : ¬ (0 ≤ k ∧ k < G.A * G.D)) (hG : Globs glT w) : Calls Tryz.prog 7 #[.agg #[.bool G.w.c.re.g, .string G.w.c.re.s, .int .i64 G.w.c.re.x, .bool G.w.c.im.g, .string G.w.c.im.s, .int .i64 G.w.c.im.x, .int .i64 G.w.e, .int .i64 G.w.a, .int .i64 G.w.d, .int .i64 G.x, .int .i64 G.h], .int .i64 k] w fun e w' => e = .returned (.tuple #[.agg #[.int .i64 0, .int .i64 0, .int .i64 0, .int .i64 0], .int .i64 2]) ∧ Below w.heap.size w w' := by
  have HG := Lib.hid hG
  have T0 := (GrB.start w G).more (.cells #[.int .i64 0, .int .i64 0, .int .i64 0, .int .i64 0] 37)
  obtain ⟨r0, r1, r2, r3, r4, r5, r6, r7, r8, r9, r10, r11⟩ := T0.2.facts
  have B0 := (Blk.new (w.alloc (.cells #[.bool G.w.c.re.g, .string G.w.c.re.s, .int .i64 G.w.c.re.x, .bool G.w.c.im.g, .string G.w.c.im.s, .int .i64 G.w.c.im.x, .int .i64 G.w.e, .int .i64 G.w.a, .int .i64 G.w.d, .int .i64 G.x, .int .i64 G.h] 30)) 37 #[.int .i64 0, .int .i64 0, .int .i64 0, .int .i64 0])
  rw [World.size_alloc] at B0
  have b1 := (Blk.cell B0 0).trans (show _ = some (.int .i64 0 : Value) from rfl)
  have b2 := (Blk.cell B0 1).trans (show _ = some (.int .i64 0 : Value) from rfl)
  have b3 := (Blk.cell B0 2).trans (show _ = some (.int .i64 0 : Value) from rfl)
  have b4 := (Blk.cell B0 3).trans (show _ = some (.int .i64 0 : Value) from rfl)
  have f1 := Blk.frozen B0 0
  have f2 := Blk.frozen B0 1
  have f3 := Blk.frozen B0 2
  have f4 := Blk.frozen B0 3
  have b0 := Blk.lt B0
  have KV := Lib.hid (fun w hG => TCount_c G w hs hG)
  clear hs hG
  rw [(GrT.c_ok h).1, (GrT.c_ok h).2, gdE_ok h] at KV
  obtain ⟨⟨a1, a2, a3⟩, d1, d2, d3⟩ := GrT.ad h.1 h.2.1
  have p1 : 1 * 1 ≤ G.A * G.D := Int.mul_le_mul (by omega) (by omega) (by omega) (by omega)
  have p2 := h.2.2
  clear h a3 d3
  generalize G.A = A at *
  generalize G.D = D at *
  obtain ⟨p, hp⟩ : ∃ p, A * D = p := ⟨_, rfl⟩
  rw [hp] at p1 p2 hn
  by_cases c0 : k < 0
  · go_enter Tryz.func7, Tryz.ntmps7
    go_wp2_with (go_at_call 6; have HK := KV.out _ (HG.out.below T0.1 (Nat.le_refl _)); (with_reducible refine HK.mono ?_); clear HK; rintro ee w1 ⟨rfl, hb⟩; replace T0 := T0.step hb; replace B0 := Blk.below B0 hb (Blk.lt B0); clear hb r0 r1 r2 r3 r4 r5 r6 r7 r8 r9 r10 r11; clear b0 b1 b2 b3 b4 f1 f2 f3 f4; obtain ⟨r0, r1, r2, r3, r4, r5, r6, r7, r8, r9, r10, r11⟩ := T0.2.facts; have b1 := (Blk.cell B0 0).trans (show _ = some (.int .i64 0 : Value) from rfl); have b2 := (Blk.cell B0 1).trans (show _ = some (.int .i64 0 : Value) from rfl); have b3 := (Blk.cell B0 2).trans (show _ = some (.int .i64 0 : Value) from rfl); have b4 := (Blk.cell B0 3).trans (show _ = some (.int .i64 0 : Value) from rfl); have f1 := Blk.frozen B0 0; have f2 := Blk.frozen B0 1; have f3 := Blk.frozen B0 2; have f4 := Blk.frozen B0 3; have b0 := Blk.lt B0)
    have B1 := Blk.put4r B0 (.int .i64 0) (.int .i64 0) (.int .i64 0) (.int .i64 0)
    have hb1 := below_put4r (n := w.heap.size) T0.1 (show w.heap.size ≤ w.heap.size + 1 by omega) (.int .i64 0) (.int .i64 0) (.int .i64 0) (.int .i64 0)
    have y1 := (Blk.cell B1 0).trans (show _ = some (.int .i64 0 : Value) from rfl)
    have y2 := (Blk.cell B1 1).trans (show _ = some (.int .i64 0 : Value) from rfl)
    have y3 := (Blk.cell B1 2).trans (show _ = some (.int .i64 0 : Value) from rfl)
    have y4 := (Blk.cell B1 3).trans (show _ = some (.int .i64 0 : Value) from rfl)
    refine bodyPost_ret (v := .tuple #[.agg #[.int .i64 0, .int .i64 0, .int .i64 0, .int .i64 0], .int .i64 2]) (by simp [results, Tryz.results7, go_sem, y1, y2, y3, y4]) rfl ⟨rfl, hb1⟩
  · have c1 : p ≤ k := Int.not_lt.1 fun c => hn ⟨by omega, c⟩
    go_enter Tryz.func7, Tryz.ntmps7
    go_wp2_with (go_at_call 6; have HK := KV.out _ (HG.out.below T0.1 (Nat.le_refl _)); (with_reducible refine HK.mono ?_); clear HK; rintro ee w1 ⟨rfl, hb⟩; replace T0 := T0.step hb; replace B0 := Blk.below B0 hb (Blk.lt B0); clear hb r0 r1 r2 r3 r4 r5 r6 r7 r8 r9 r10 r11; clear b0 b1 b2 b3 b4 f1 f2 f3 f4; obtain ⟨r0, r1, r2, r3, r4, r5, r6, r7, r8, r9, r10, r11⟩ := T0.2.facts; have b1 := (Blk.cell B0 0).trans (show _ = some (.int .i64 0 : Value) from rfl); have b2 := (Blk.cell B0 1).trans (show _ = some (.int .i64 0 : Value) from rfl); have b3 := (Blk.cell B0 2).trans (show _ = some (.int .i64 0 : Value) from rfl); have b4 := (Blk.cell B0 3).trans (show _ = some (.int .i64 0 : Value) from rfl); have f1 := Blk.frozen B0 0; have f2 := Blk.frozen B0 1; have f3 := Blk.frozen B0 2; have f4 := Blk.frozen B0 3; have b0 := Blk.lt B0)
    have B1 := Blk.put4r B0 (.int .i64 0) (.int .i64 0) (.int .i64 0) (.int .i64 0)
    have hb1 := below_put4r (n := w.heap.size) T0.1 (show w.heap.size ≤ w.heap.size + 1 by omega) (.int .i64 0) (.int .i64 0) (.int .i64 0) (.int .i64 0)
    have y1 := (Blk.cell B1 0).trans (show _ = some (.int .i64 0 : Value) from rfl)
    have y2 := (Blk.cell B1 1).trans (show _ = some (.int .i64 0 : Value) from rfl)
    have y3 := (Blk.cell B1 2).trans (show _ = some (.int .i64 0 : Value) from rfl)
    have y4 := (Blk.cell B1 3).trans (show _ = some (.int .i64 0 : Value) from rfl)
    refine bodyPost_ret (v := .tuple #[.agg #[.int .i64 0, .int .i64 0, .int .i64 0, .int .i64 0], .int .i64 2]) (by simp [results, Tryz.results7, go_sem, y1, y2, y3, y4]) rfl ⟨rfl, hb1⟩
set_option maxRecDepth 100000 in
set_option maxHeartbeats 4000000 in
theorem TRect_in (G : GrT) (k : Int) (w : World) (hs : G.w.c.Small) (h : G.Ok) (hi : 0 ≤ k ∧ k < G.A * G.D) (hG : Globs glT w) : Calls Tryz.prog 7 #[.agg #[.bool G.w.c.re.g, .string G.w.c.re.s, .int .i64 G.w.c.re.x, .bool G.w.c.im.g, .string G.w.c.im.s, .int .i64 G.w.c.im.x, .int .i64 G.w.e, .int .i64 G.w.a, .int .i64 G.w.d, .int .i64 G.x, .int .i64 G.h], .int .i64 k] w fun e w' => e = .returned (.tuple #[.agg #[.int .i64 (G.rX k), .int .i64 (G.rY k), .int .i64 (G.rA k), .int .i64 (G.rD k)], .int .i64 0]) ∧ Below w.heap.size w w' := by
  have HG := Lib.hid hG
  have T0 := (GrB.start w G).more (.cells #[.int .i64 0, .int .i64 0, .int .i64 0, .int .i64 0] 37)
  obtain ⟨r0, r1, r2, r3, r4, r5, r6, r7, r8, r9, r10, r11⟩ := T0.2.facts
  have B0 := (Blk.new (w.alloc (.cells #[.bool G.w.c.re.g, .string G.w.c.re.s, .int .i64 G.w.c.re.x, .bool G.w.c.im.g, .string G.w.c.im.s, .int .i64 G.w.c.im.x, .int .i64 G.w.e, .int .i64 G.w.a, .int .i64 G.w.d, .int .i64 G.x, .int .i64 G.h] 30)) 37 #[.int .i64 0, .int .i64 0, .int .i64 0, .int .i64 0])
  rw [World.size_alloc] at B0
  have b1 := (Blk.cell B0 0).trans (show _ = some (.int .i64 0 : Value) from rfl)
  have b2 := (Blk.cell B0 1).trans (show _ = some (.int .i64 0 : Value) from rfl)
  have b3 := (Blk.cell B0 2).trans (show _ = some (.int .i64 0 : Value) from rfl)
  have b4 := (Blk.cell B0 3).trans (show _ = some (.int .i64 0 : Value) from rfl)
  have f1 := Blk.frozen B0 0
  have f2 := Blk.frozen B0 1
  have f3 := Blk.frozen B0 2
  have f4 := Blk.frozen B0 3
  have b0 := Blk.lt B0
  have KV := Lib.hid (fun w hG => TCount_c G w hs hG)
  clear hs hG
  rw [(GrT.c_ok h).1, (GrT.c_ok h).2, gdE_ok h] at KV
  obtain ⟨⟨a1, a2, a3⟩, d1, d2, d3⟩ := GrT.ad h.1 h.2.1
  have p1 : 1 * 1 ≤ G.A * G.D := Int.mul_le_mul (by omega) (by omega) (by omega) (by omega)
  have p2 := h.2.2
  have KR := Lib.hid (fun w => Trect_c G k w h hi.1 hi.2)
  generalize G.rX k = X at *
  generalize G.rY k = Y at *
  generalize G.rA k = P at *
  generalize G.rD k = Q at *
  clear h a3 d3
  generalize G.A = A at *
  generalize G.D = D at *
  obtain ⟨p, hp⟩ : ∃ p, A * D = p := ⟨_, rfl⟩
  rw [hp] at p1 p2 hi
  have c0 : ¬ k < 0 := by omega
  have c1 : ¬ p ≤ k := by omega
  go_enter Tryz.func7, Tryz.ntmps7
  go_wp2_with (first | (go_at_call 6; have HK := KV.out _ (HG.out.below T0.1 (Nat.le_refl _)); (with_reducible refine HK.mono ?_); clear HK; rintro ee w1 ⟨rfl, hb⟩; replace T0 := T0.step hb; replace B0 := Blk.below B0 hb (Blk.lt B0); clear hb r0 r1 r2 r3 r4 r5 r6 r7 r8 r9 r10 r11; clear b0 b1 b2 b3 b4 f1 f2 f3 f4; obtain ⟨r0, r1, r2, r3, r4, r5, r6, r7, r8, r9, r10, r11⟩ := T0.2.facts; have b1 := (Blk.cell B0 0).trans (show _ = some (.int .i64 0 : Value) from rfl); have b2 := (Blk.cell B0 1).trans (show _ = some (.int .i64 0 : Value) from rfl); have b3 := (Blk.cell B0 2).trans (show _ = some (.int .i64 0 : Value) from rfl); have b4 := (Blk.cell B0 3).trans (show _ = some (.int .i64 0 : Value) from rfl); have f1 := Blk.frozen B0 0; have f2 := Blk.frozen B0 1; have f3 := Blk.frozen B0 2; have f4 := Blk.frozen B0 3; have b0 := Blk.lt B0) | (go_at_call 19; (with_reducible refine (KR.out _).mono ?_); rintro ee w1 ⟨rfl, hb⟩; replace T0 := T0.step hb; replace B0 := Blk.below B0 hb (Blk.lt B0); clear hb r0 r1 r2 r3 r4 r5 r6 r7 r8 r9 r10 r11; clear b0 b1 b2 b3 b4 f1 f2 f3 f4; obtain ⟨r0, r1, r2, r3, r4, r5, r6, r7, r8, r9, r10, r11⟩ := T0.2.facts; have b1 := (Blk.cell B0 0).trans (show _ = some (.int .i64 0 : Value) from rfl); have b2 := (Blk.cell B0 1).trans (show _ = some (.int .i64 0 : Value) from rfl); have b3 := (Blk.cell B0 2).trans (show _ = some (.int .i64 0 : Value) from rfl); have b4 := (Blk.cell B0 3).trans (show _ = some (.int .i64 0 : Value) from rfl); have f1 := Blk.frozen B0 0; have f2 := Blk.frozen B0 1; have f3 := Blk.frozen B0 2; have f4 := Blk.frozen B0 3; have b0 := Blk.lt B0))
  have B1 := Blk.put4r B0 (.int .i64 X) (.int .i64 Y) (.int .i64 P) (.int .i64 Q)
  have hb1 := below_put4r (n := w.heap.size) T0.1 (show w.heap.size ≤ w.heap.size + 1 by omega) (.int .i64 X) (.int .i64 Y) (.int .i64 P) (.int .i64 Q)
  have y1 := (Blk.cell B1 0).trans (show _ = some (.int .i64 X : Value) from rfl)
  have y2 := (Blk.cell B1 1).trans (show _ = some (.int .i64 Y : Value) from rfl)
  have y3 := (Blk.cell B1 2).trans (show _ = some (.int .i64 P : Value) from rfl)
  have y4 := (Blk.cell B1 3).trans (show _ = some (.int .i64 Q : Value) from rfl)
  refine bodyPost_ret (v := .tuple #[.agg #[.int .i64 X, .int .i64 Y, .int .i64 P, .int .i64 Q], .int .i64 0]) (by simp [results, Tryz.results7, go_sem, y1, y2, y3, y4]) rfl ⟨rfl, hb1⟩
set_option maxRecDepth 100000 in
set_option maxHeartbeats 4000000 in
theorem TRects_c (G : GrT) (w : World) (hs : G.w.c.Small) (hG : Globs glT w) : Calls Tryz.prog 9 #[.agg #[.bool G.w.c.re.g, .string G.w.c.re.s, .int .i64 G.w.c.re.x, .bool G.w.c.im.g, .string G.w.c.im.s, .int .i64 G.w.c.im.x, .int .i64 G.w.e, .int .i64 G.w.a, .int .i64 G.w.d, .int .i64 G.x, .int .i64 G.h]] w fun e w' => ∃ nA nD nG : Nat, e = .returned (.func (.func 20) #[] #[.pointer (some ⟨nA, 0, none⟩), .pointer (some ⟨nD, 0, none⟩), .pointer (some ⟨nG, 0, none⟩)]) ∧ Below w.heap.size w w' ∧ (nA < w'.heap.size ∧ nD < w'.heap.size ∧ nG < w'.heap.size) ∧ w'.cell? ⟨nA, 0, none⟩ = some (.int .i64 G.cA) ∧ w'.cell? ⟨nD, 0, none⟩ = some (.int .i64 G.cD) ∧ Bx11 w' nG G := by
  have HG := Lib.hid hG
  have T0 := GrB.start w G
  obtain ⟨r0, r1, r2, r3, r4, r5, r6, r7, r8, r9, r10, r11⟩ := T0.2.facts
  have KV := Lib.hid (fun w hG => TCount_c G w hs hG)
  clear hs hG
  generalize G.cA = A at *
  generalize G.cD = D at *
  go_enter Tryz.func9, Tryz.ntmps9
  go_wp2_with (go_at_call 6; have HK := KV.out _ (HG.out.below T0.1 (Nat.le_refl _)); (with_reducible refine HK.mono ?_); clear HK; rintro ee w1 ⟨rfl, hb⟩; replace T0 := T0.step hb; clear hb r0 r1 r2 r3 r4 r5 r6 r7 r8 r9 r10 r11; obtain ⟨r0, r1, r2, r3, r4, r5, r6, r7, r8, r9, r10, r11⟩ := T0.2.facts; have A0 := Blk.new w1 3 #[.int .i64 0]; have D0 := Blk.new (w1.alloc (.cells #[.int .i64 0] 3)) 3 #[.int .i64 0]; rw [World.size_alloc] at D0; replace A0 := A0.alloc (.cells #[.int .i64 0] 3); have A1 := (Blk.cell A0 0).trans (show _ = some (.int .i64 0 : Value) from rfl); have D1 := (Blk.cell D0 0).trans (show _ = some (.int .i64 0 : Value) from rfl); have A2 := Blk.frozen A0 0; have D2 := Blk.frozen D0 0)
  go_ret
  have z1 : w.heap.size < w1.heap.size := r0
  refine ⟨w1.heap.size, w1.heap.size + 1, w.heap.size, rfl, ?_, ?_, ?_, ?_, ?_⟩
  · exact (T0.1.alloc T0.1.size _).alloc (by simp; omega) _
  · simp; omega
  · exact (Blk.cell ((Blk.new w1 3 #[.int .i64 A]).alloc (.cells #[.int .i64 D] 3)) 0).trans rfl
  · have h := Blk.new (w1.alloc (.cells #[.int .i64 A] 3)) 3 #[.int .i64 D]
    rw [World.size_alloc] at h
    exact (Blk.cell h 0).trans rfl
  · exact (Blk.alloc T0.2 _).alloc _
end Go.Proofs.YtackmbfbilbopaaGreatDoor
