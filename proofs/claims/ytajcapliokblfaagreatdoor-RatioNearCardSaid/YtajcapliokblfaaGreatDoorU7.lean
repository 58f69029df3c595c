/- Texts put together: D7 D22 D24 D25 D27 D28 D35 D37 D40 D42 D43 D62 SyD D63 P33 P32 P34 P35 P36. -/
import Derived.Test.YtajcapliokblfaaGreatDoorU6
import Derived.BigQuiet
import Derived.Deep.RegionHeld3
import Derived.Deep.RegionLaw
import Derived.Test.YtajcapliokblfaaGreatDoorU1
set_option linter.unusedSimpArgs false
set_option linter.unusedVariables false
namespace Go.Proofs.YtajcapliokblfaaGreatDoor
open Go Go.RowKit Nt
/-- A Dyad stands at block B. -/
def BoxAt (w : World) (B : Nat) (g : Bool) (s : ByteArray) (x : Int) : Prop := B < w.heap.size ∧ w.cell? ⟨B, 0, none⟩ = some (.bool g) ∧ w.cell? ⟨B, 1, none⟩ = some (.string s) ∧ w.cell? ⟨B, 2, none⟩ = some (.int .i64 x)
theorem BoxAt.step {w w' : World} {B : Nat} {g : Bool} {s : ByteArray} {x : Int} (h : BoxAt w B g s x) (hb : Below w.heap.size w w') : BoxAt w' B g s x := by
  obtain ⟨h0, h1, h2, h3⟩ := h
  exact ⟨Nat.lt_of_lt_of_le h0 hb.size, (hb.cell (p := ⟨B, 0, none⟩) h0).trans h1, (hb.cell (p := ⟨B, 1, none⟩) h0).trans h2, (hb.cell (p := ⟨B, 2, none⟩) h0).trans h3⟩
theorem BoxAt.new (w : World) (g : Bool) (s : ByteArray) (x : Int) (T : TypeId) : BoxAt (w.alloc (.cells #[.bool g, .string s, .int .i64 x] T)) w.heap.size g s x :=
  ⟨by simp, (World.cell?_alloc_at _ _ _ _ rfl).trans rfl, (World.cell?_alloc_at _ _ _ _ rfl).trans rfl, (World.cell?_alloc_at _ _ _ _ rfl).trans rfl⟩
/-- From w on, with one Dyad in its box. -/
def On1 (w : World) (g : Bool) (s : ByteArray) (x : Int) (wc : World) : Prop := Below w.heap.size w wc ∧ BoxAt wc w.heap.size g s x
theorem On1.step {w : World} {g : Bool} {s : ByteArray} {x : Int} {wc w' : World} (h : On1 w g s x wc) (hb : Below wc.heap.size wc w') : On1 w g s x w' := ⟨below_chain h.1 hb, h.2.step hb⟩
theorem On1.new (w : World) (g : Bool) (s : ByteArray) (x : Int) (T : TypeId) : On1 w g s x (w.alloc (.cells #[.bool g, .string s, .int .i64 x] T)) := ⟨(Below.refl _ _).alloc (Nat.le_refl _) _, BoxAt.new w g s x T⟩
/-- And a second box, with the Dyad's magnitude. -/
def On2 (w : World) (g : Bool) (s : ByteArray) (x : Int) (B : Nat) (wc : World) : Prop := On1 w g s x wc ∧ BoxAt wc B false s x
theorem On2.step {w : World} {g : Bool} {s : ByteArray} {x : Int} {B : Nat} {wc w' : World} (h : On2 w g s x B wc) (hb : Below wc.heap.size wc w') : On2 w g s x B w' := ⟨h.1.step hb, h.2.step hb⟩
theorem On2.start {w : World} {g : Bool} {s : ByteArray} {x : Int} {w1 : World} {T : TypeId} (h : On1 w g s x w1) : On2 w g s x w1.heap.size ((w1.alloc (.cells #[.bool false, .string s, .int .i64 x] T)).drew) := by
  have e : Below w1.heap.size w1 (w1.alloc (.cells #[.bool false, .string s, .int .i64 x] T)) := (Below.refl _ _).alloc (Nat.le_refl _) _
  exact ⟨h.step e.drew, (BoxAt.new w1 false s x T).step (Below.refl _ _).drew⟩
end Go.Proofs.YtajcapliokblfaaGreatDoor
set_option linter.unusedSimpArgs false
set_option linter.unusedVariables false
namespace Go.Proofs.YtajcapliokblfaaGreatDoor
open Go Go.RowKit Nt
/-- A Dyad in a block. -/
def Box3 (w : World) (B : Nat) (a b c : Value) : Prop := Blk w B 26 #[a, b, c]
theorem Box3.facts {w : World} {B : Nat} {a b c : Value} (h : Box3 w B a b c) : B < w.heap.size ∧ w.cell? ⟨B, 0, none⟩ = some a ∧ w.cell? ⟨B, 1, none⟩ = some b ∧ w.cell? ⟨B, 2, none⟩ = some c ∧ w.frozen? ⟨B, 0, none⟩ = false ∧ w.frozen? ⟨B, 1, none⟩ = false ∧ w.frozen? ⟨B, 2, none⟩ = false :=
  ⟨Blk.lt h, (Blk.cell h 0).trans rfl, (Blk.cell h 1).trans rfl, (Blk.cell h 2).trans rfl, Blk.frozen h 0, Blk.frozen h 1, Blk.frozen h 2⟩
theorem Box3.step {w w' : World} {B : Nat} {a b c : Value} (h : Box3 w B a b c) (hb : Below w.heap.size w w') : Box3 w' B a b c := Blk.below h hb (Blk.lt h)
theorem Box3.new (w : World) (a b c : Value) : Box3 (w.alloc (.cells #[a, b, c] 26)) w.heap.size a b c := Blk.new w _ _
theorem Box3.more {w : World} {B : Nat} {a b c : Value} (h : Box3 w B a b c) (o : Obj) : Box3 (w.alloc o) B a b c := Blk.alloc h o
theorem Box3.put {w : World} {B : Nat} {a b c : Value} (h : Box3 w B a b c) (a' b' c' : Value) : Box3 (((w.setCell ⟨B, 0, none⟩ a').setCell ⟨B, 1, none⟩ b').setCell ⟨B, 2, none⟩ c') B a' b' c' := by
  have := ((Blk.set_ h 0 a').set_ 1 b').set_ 2 c'
  unfold Box3
  simpa using this
theorem Box3.far {w : World} {B C : Nat} {a b c : Value} (h : Box3 w B a b c) (hne : B ≠ C) (a' b' c' : Value) : Box3 (((w.setCell ⟨C, 0, none⟩ a').setCell ⟨C, 1, none⟩ b').setCell ⟨C, 2, none⟩ c') B a b c :=
  Blk.far (Blk.far (Blk.far h (p := ⟨C, 0, none⟩) hne a') (p := ⟨C, 1, none⟩) hne b') (p := ⟨C, 2, none⟩) hne c'
theorem below_put {n : Nat} {w W : World} {A : Nat} (hb : Below n w W) (hA : n ≤ A) (a' b' c' : Value) : Below n w (((W.setCell ⟨A, 0, none⟩ a').setCell ⟨A, 1, none⟩ b').setCell ⟨A, 2, none⟩ c') :=
  ((hb.setCell (p := ⟨A, 0, none⟩) hA a').setCell (p := ⟨A, 1, none⟩) hA b').setCell (p := ⟨A, 2, none⟩) hA c'
theorem below_then {a b c : World} (h1 : Below a.heap.size a b) (h2 : Below b.heap.size b c) : Below a.heap.size a c := h1.trans (h2.mono h1.size)
end Go.Proofs.YtajcapliokblfaaGreatDoor
set_option linter.unusedSimpArgs false
set_option linter.unusedVariables false
namespace Go.Proofs.YtajcapliokblfaaGreatDoor
open Go Go.RowKit Nt
/-- From w on, with two Dyads in boxes. -/
def TB (w : World) (a b : Dt) (W : World) : Prop := Below w.heap.size w W ∧ Box3 W w.heap.size (.bool a.g) (.string a.s) (.int .i64 a.x) ∧ Box3 W (w.heap.size + 1) (.bool b.g) (.string b.s) (.int .i64 b.x)
theorem TB.start (w : World) (a b : Dt) : TB w a b ((w.alloc (.cells #[.bool a.g, .string a.s, .int .i64 a.x] 26)).alloc (.cells #[.bool b.g, .string b.s, .int .i64 b.x] 26)) := by
  have e : (w.alloc (.cells #[.bool a.g, .string a.s, .int .i64 a.x] 26)).heap.size = w.heap.size + 1 := by simp
  refine ⟨((Below.refl _ _).alloc (Nat.le_refl _) _).alloc (by simp) _, (Box3.new w _ _ _).more _, ?_⟩
  rw [← e]
  exact Box3.new _ _ _ _
theorem TB.step {w : World} {a b : Dt} {W W' : World} (h : TB w a b W) (hb : Below W.heap.size W W') : TB w a b W' := ⟨below_then h.1 hb, h.2.1.step hb, h.2.2.step hb⟩
theorem TB.more {w : World} {a b : Dt} {W : World} (h : TB w a b W) (o : Obj) : TB w a b (W.alloc o) := h.step ((Below.refl _ _).alloc (Nat.le_refl _) _)
theorem TB.drawn {w : World} {a b : Dt} {W : World} (h : TB w a b W) (n : Nat) : TB w a b (W.drewN n) := h.step (below_drewN (Below.refl _ _) n)
theorem TB.drew {w : World} {a b : Dt} {W : World} (h : TB w a b W) : TB w a b W.drew := h.step (Below.refl _ _).drew
def Dy.t (d : Dy) : Dt := ⟨d.g, natS d.n, d.x⟩
theorem Dy.t_ok {d : Dy} (h : d.Num) : d.t.Ok := Or.inr ⟨d.n, h.1, h.2.1, rfl, h.2.2.1, h.2.2.2⟩
end Go.Proofs.YtajcapliokblfaaGreatDoor
set_option linter.unusedSimpArgs false
set_option linter.unusedVariables false
namespace Go.Proofs.YtajcapliokblfaaGreatDoor
open Go Go.RowKit Nt
theorem Dy.ok_t {d : Dy} (h : d.Ok) : d.t.Ok := by
  rcases h with rfl | h
  · exact Or.inl ⟨natS_zero, rfl, rfl⟩
  · exact Dy.t_ok h
theorem Dy.small {d : Dy} (h : d.Ok) : (natS d.n).size ≤ 16384 := Dt.small (Dy.ok_t h)
end Go.Proofs.YtajcapliokblfaaGreatDoor
set_option linter.unusedSimpArgs false
set_option linter.unusedVariables false
namespace Go.Proofs.YtajcapliokblfaaGreatDoor
open Go Go.RowKit Nt
/-- From w on, with one Dyad in a box. -/
def OB (w : World) (a : Dt) (W : World) : Prop := Below w.heap.size w W ∧ Box3 W w.heap.size (.bool a.g) (.string a.s) (.int .i64 a.x)
theorem OB.start (w : World) (a : Dt) : OB w a (w.alloc (.cells #[.bool a.g, .string a.s, .int .i64 a.x] 26)) := ⟨(Below.refl _ _).alloc (Nat.le_refl _) _, Box3.new w _ _ _⟩
theorem OB.step {w : World} {a : Dt} {W W' : World} (h : OB w a W) (hb : Below W.heap.size W W') : OB w a W' := ⟨below_then h.1 hb, h.2.step hb⟩
theorem OB.more {w : World} {a : Dt} {W : World} (h : OB w a W) (o : Obj) : OB w a (W.alloc o) := h.step ((Below.refl _ _).alloc (Nat.le_refl _) _)
end Go.Proofs.YtajcapliokblfaaGreatDoor
set_option linter.unusedSimpArgs false
set_option linter.unusedVariables false
namespace Go.Proofs.YtajcapliokblfaaGreatDoor
open Go Go.RowKit Nt
theorem Dt.dy {t : Dt} (h : t.Ok) : ∃ d : Dy, d.Ok ∧ t = d.t := by
  obtain ⟨d, h1, h2, h3, h4⟩ := DOk_dy h
  exact ⟨d, h1, by obtain ⟨g, s, x⟩ := t; simp only at h2 h3 h4; rw [h2, h3, h4]; rfl⟩
end Go.Proofs.YtajcapliokblfaaGreatDoor
set_option linter.unusedSimpArgs false
set_option linter.unusedVariables false
namespace Go.Proofs.YtajcapliokblfaaGreatDoor
open Go Go.RowKit Nt
/-- From w on: two Dyads in boxes, and a third box for what is answered. -/
def TC (w : World) (a b : Dt) (W : World) : Prop := TB w a b W ∧ Box3 W (w.heap.size + 2) (.bool false) (.string ⟨#[]⟩) (.int .i64 0)
theorem TC.start (w : World) (a b : Dt) : TC w a b (((w.alloc (.cells #[.bool a.g, .string a.s, .int .i64 a.x] 26)).alloc (.cells #[.bool b.g, .string b.s, .int .i64 b.x] 26)).alloc (.cells #[.bool false, .string ⟨#[]⟩, .int .i64 0] 26)) := by
  refine ⟨(TB.start w a b).more _, ?_⟩
  have := Box3.new ((w.alloc (.cells #[.bool a.g, .string a.s, .int .i64 a.x] 26)).alloc (.cells #[.bool b.g, .string b.s, .int .i64 b.x] 26)) (.bool false) (.string ⟨#[]⟩) (.int .i64 0)
  simpa using this
theorem TC.step {w : World} {a b : Dt} {W W' : World} (h : TC w a b W) (hb : Below W.heap.size W W') : TC w a b W' := ⟨h.1.step hb, h.2.step hb⟩
theorem TC.more {w : World} {a b : Dt} {W : World} (h : TC w a b W) (o : Obj) : TC w a b (W.alloc o) := h.step ((Below.refl _ _).alloc (Nat.le_refl _) _)
theorem TC.drawn {w : World} {a b : Dt} {W : World} (h : TC w a b W) (n : Nat) : TC w a b (W.drewN n) := h.step (below_drewN (Below.refl _ _) n)
theorem TC.drew {w : World} {a b : Dt} {W : World} (h : TC w a b W) : TC w a b W.drew := h.step (Below.refl _ _).drew
theorem TC.fin {w : World} {a b : Dt} {W : World} (h : TC w a b W) (x y z : Value) : Below w.heap.size w (((W.setCell ⟨w.heap.size + 2, 0, none⟩ x).setCell ⟨w.heap.size + 2, 1, none⟩ y).setCell ⟨w.heap.size + 2, 2, none⟩ z) := below_put h.1.1 (by omega) x y z
end Go.Proofs.YtajcapliokblfaaGreatDoor
set_option linter.unusedSimpArgs false
set_option linter.unusedVariables false
namespace Go.Proofs.YtajcapliokblfaaGreatDoor
open Go Go.RowKit Nt
/-- As TC, whatever stands in the third box. -/
def TD (w : World) (a b : Dt) (W : World) : Prop := TB w a b W ∧ ∃ x y z, Box3 W (w.heap.size + 2) x y z
theorem TD.step {w : World} {a b : Dt} {W W' : World} (h : TD w a b W) (hb : Below W.heap.size W W') : TD w a b W' := by
  obtain ⟨h1, x, y, z, h2⟩ := h; exact ⟨h1.step hb, x, y, z, h2.step hb⟩
theorem TD.drawn {w : World} {a b : Dt} {W : World} (h : TD w a b W) (n : Nat) : TD w a b (W.drewN n) := h.step (below_drewN (Below.refl _ _) n)
theorem TD.drew {w : World} {a b : Dt} {W : World} (h : TD w a b W) : TD w a b W.drew := h.step (Below.refl _ _).drew
theorem TD.put {w : World} {a b : Dt} {W : World} (h : TD w a b W) (x y z : Value) : TD w a b (((W.setCell ⟨w.heap.size + 2, 0, none⟩ x).setCell ⟨w.heap.size + 2, 1, none⟩ y).setCell ⟨w.heap.size + 2, 2, none⟩ z) := by
  obtain ⟨⟨h1, h2, h3⟩, x', y', z', h4⟩ := h
  exact ⟨⟨below_put h1 (by omega) _ _ _, h2.far (by omega) _ _ _, h3.far (by omega) _ _ _⟩, _, _, _, h4.put _ _ _⟩
theorem TD.res {w : World} {a b : Dt} {W : World} (h : TD w a b W) : w.heap.size + 2 < W.heap.size ∧ (W.cell? ⟨w.heap.size + 2, 0, none⟩).isSome = true ∧ (W.cell? ⟨w.heap.size + 2, 1, none⟩).isSome = true ∧ (W.cell? ⟨w.heap.size + 2, 2, none⟩).isSome = true ∧ W.frozen? ⟨w.heap.size + 2, 0, none⟩ = false ∧ W.frozen? ⟨w.heap.size + 2, 1, none⟩ = false ∧ W.frozen? ⟨w.heap.size + 2, 2, none⟩ = false := by
  obtain ⟨h1, x, y, z, h4⟩ := h
  obtain ⟨r0, r1, r2, r3, r4, r5, r6⟩ := h4.facts
  exact ⟨r0, by rw [r1]; rfl, by rw [r2]; rfl, by rw [r3]; rfl, r4, r5, r6⟩
/-- What stands in a cell. -/
@[irreducible] def cellAt (W : World) (B i : Nat) : Value := (W.cell? ⟨B, i, none⟩).getD undef
theorem cellAt_eq {W : World} {B i : Nat} {v : Value} (h : W.cell? ⟨B, i, none⟩ = some v) : W.cell? ⟨B, i, none⟩ = some (cellAt W B i) := by unfold cellAt; rw [h]; rfl
theorem TD.cells {w : World} {a b : Dt} {W : World} (h : TD w a b W) : w.heap.size + 2 < W.heap.size ∧ W.cell? ⟨w.heap.size + 2, 0, none⟩ = some (cellAt W (w.heap.size + 2) 0) ∧ W.cell? ⟨w.heap.size + 2, 1, none⟩ = some (cellAt W (w.heap.size + 2) 1) ∧ W.cell? ⟨w.heap.size + 2, 2, none⟩ = some (cellAt W (w.heap.size + 2) 2) ∧ W.frozen? ⟨w.heap.size + 2, 0, none⟩ = false ∧ W.frozen? ⟨w.heap.size + 2, 1, none⟩ = false ∧ W.frozen? ⟨w.heap.size + 2, 2, none⟩ = false := by
  obtain ⟨h1, x, y, z, h4⟩ := h
  obtain ⟨r0, r1, r2, r3, r4, r5, r6⟩ := h4.facts
  exact ⟨r0, cellAt_eq r1, cellAt_eq r2, cellAt_eq r3, r4, r5, r6⟩
end Go.Proofs.YtajcapliokblfaaGreatDoor
set_option linter.unusedSimpArgs false
set_option linter.unusedVariables false
namespace Go.Proofs.YtajcapliokblfaaGreatDoor
open Go Go.RowKit Nt
end Go.Proofs.YtajcapliokblfaaGreatDoor
set_option linter.unusedSimpArgs false
set_option linter.unusedVariables false
namespace Go.Proofs.YtajcapliokblfaaGreatDoor
open Go Go.RowKit Nt
end Go.Proofs.YtajcapliokblfaaGreatDoor
set_option linter.unusedSimpArgs false
set_option linter.unusedVariables false
namespace Go.Proofs.YtajcapliokblfaaGreatDoor
open Go Go.RowKit Nt
/-- From w on: a Dyad in a box, and a second box for what is answered. -/
def OC (w : World) (a : Dt) (W : World) : Prop := OB w a W ∧ Box3 W (w.heap.size + 1) (.bool false) (.string ⟨#[]⟩) (.int .i64 0)
theorem OC.start (w : World) (a : Dt) : OC w a ((w.alloc (.cells #[.bool a.g, .string a.s, .int .i64 a.x] 26)).alloc (.cells #[.bool false, .string ⟨#[]⟩, .int .i64 0] 26)) := by
  refine ⟨(OB.start w a).more _, ?_⟩
  have := Box3.new (w.alloc (.cells #[.bool a.g, .string a.s, .int .i64 a.x] 26)) (.bool false) (.string ⟨#[]⟩) (.int .i64 0)
  simpa using this
theorem OC.step {w : World} {a : Dt} {W W' : World} (h : OC w a W) (hb : Below W.heap.size W W') : OC w a W' := ⟨h.1.step hb, h.2.step hb⟩
theorem OC.more {w : World} {a : Dt} {W : World} (h : OC w a W) (o : Obj) : OC w a (W.alloc o) := h.step ((Below.refl _ _).alloc (Nat.le_refl _) _)
theorem OC.fin {w : World} {a : Dt} {W : World} (h : OC w a W) (x y z : Value) : Below w.heap.size w (((W.setCell ⟨w.heap.size + 1, 0, none⟩ x).setCell ⟨w.heap.size + 1, 1, none⟩ y).setCell ⟨w.heap.size + 1, 2, none⟩ z) := below_put h.1.1 (by omega) x y z
end Go.Proofs.YtajcapliokblfaaGreatDoor
set_option linter.unusedSimpArgs false
set_option linter.unusedVariables false
namespace Go.Proofs.YtajcapliokblfaaGreatDoor
open Go Go.RowKit Nt
theorem DRow.below {w w' : World} {A : Option Addr} {n L : Nat} (h : DRow w A n L) (hb : Below w.heap.size w w') : DRow w' A n L := fun j hj => by
  obtain ⟨g, e, hg, hc⟩ := h j hj
  exact ⟨g, e, Nat.lt_of_lt_of_le hg hb.size, (hb.cell (p := ⟨g, j, none⟩) hg).trans hc⟩
end Go.Proofs.YtajcapliokblfaaGreatDoor
set_option linter.unusedVariables false
set_option linter.unusedSimpArgs false
set_option linter.unusedSectionVars false
namespace Go.Proofs.YtajcapliokblfaaGreatDoor
open Go Go.RowKit Nt
theorem natS_inj {m n : Nat} : natS m = natS n ↔ m = n := by
  constructor
  · intro h
    have : (natS m).toList = (natS n).toList := by rw [h]
    exact (natS_list_eq m n).1 this
  · rintro rfl; rfl
section
variable [Env]
end
def Dy.one : Dy := ⟨false, 1, 0⟩
theorem natS_dz : natS Dy.zero.n = ⟨#[]⟩ := natS_zero
end Go.Proofs.YtajcapliokblfaaGreatDoor
set_option linter.unusedSimpArgs false
set_option linter.unusedVariables false
namespace Go.Proofs.YtajcapliokblfaaGreatDoor
open Go Go.RowKit Nt
/-- Does it fit? -/
@[irreducible] def okP (m : Nat) (q : Int) : Bool := decide (¬ (m = 9007199254740992 ∧ q = 971))
theorem okP_iff {m : Nat} {q : Int} : okP m q = true ↔ ¬ (m = 9007199254740992 ∧ q = 971) := by unfold okP; exact decide_eq_true_iff
theorem okP_lt {m : Nat} {q : Int} (h : m < 9007199254740992) : okP m q = true := okP_iff.2 (fun c => by omega)
@[irreducible] def mkW (g : Bool) (m : Nat) (q : Int) : Nat := if okP m q = true then Bt.wf g (pk m q) else 0
theorem mkW_ok {g : Bool} {m : Nat} {q : Int} (h : okP m q = true) : mkW g m q = Bt.wf g (pk m q) := by unfold mkW; rw [if_pos h]
theorem wf_f (x : Nat) : Bt.wf false x = x := by rw [Bt.wf_eq]; rfl
theorem inf_f {m : Nat} {q : Int} (h : ¬ okP m q = true) : Bt.wf false (pk m q) = 9218868437227405312 := by
  have h := Classical.not_not.1 (fun c => h (okP_iff.2 c))
  rw [h.1, h.2, wf_f, pk_eq]; rfl
theorem inf_t {m : Nat} {q : Int} (h : ¬ okP m q = true) : Bt.wf true (pk m q) = 18442240474082181120 := by
  have h := Classical.not_not.1 (fun c => h (okP_iff.2 c))
  rw [h.1, h.2, Bt.wf_eq, if_pos rfl, Bt.topped_eq, pk_eq]; rfl
theorem pk_zero : pk 0 (-1074) = 0 := by rw [pk_eq]; rfl
theorem bMake_i (g : Bool) (m : Nat) (q : Int) (w : World) (h1 : m ≤ 9007199254740992) (hq : -1074 ≤ q) (hq2 : q ≤ 971) (hm : 4503599627370496 ≤ m ∨ q = -1074) {b : Bool} (hb : b = true ↔ okP m q = true) (hG : Globs glT w) :
    Calls Tryz.prog 178 #[.bool g, .int .u64 m, .int .i64 q] w fun e w' => e = .returned (.tuple #[.float .f64 (mkW g m q), .bool b]) ∧ Below w.heap.size w w' := by
  refine (Bt.Make_c g m (by omega) q w (tabs_of hG)).mono ?_
  rintro e w' ⟨rfl, rfl⟩
  refine ⟨?_, Below.refl _ _⟩
  rw [Bool.eq_iff_iff.2 hb]
  by_cases h0 : m = 0
  · subst h0
    obtain rfl : q = -1074 := by omega
    rw [Bt.mkF_zero, Bt.mkB_zero, mkW_ok (okP_lt (by omega)), okP_lt (by omega), pk_zero]
  · by_cases hk : m = 9007199254740992 ∧ q = 971
    · obtain ⟨rfl, rfl⟩ := hk
      have e1 : ¬ okP 9007199254740992 971 = true := fun c => okP_iff.1 c ⟨rfl, rfl⟩
      have e2 : ¬ Bt.mkOk (Bt.od 9007199254740992) ((971 : Int) + Bt.tz 9007199254740992) := by
        rintro ⟨_, _, c⟩
        have h3 := Bt.tz_spec (m := 9007199254740992) (by omega) (by omega)
        have h4 := Bt.bl_lt (m := Bt.od 9007199254740992) (Nat.lt_of_le_of_lt Bt.od_le (by omega))
        revert h3 h4 c
        generalize Bt.tz 9007199254740992 = z
        generalize Bt.od 9007199254740992 = o
        generalize Lib.bitLen o = B
        intro c h3 h4
        have h5 : 9007199254740992 < 2 ^ (B + z) := by rw [← h3.1, Nat.pow_add]; exact Nat.mul_lt_mul_of_pos_right h4 (Nat.two_pow_pos z)
        have h6 : 53 < B + z := pow_lt_of (by rw [show (2 : Nat) ^ 53 = 9007199254740992 by decide]; exact h5)
        omega
      rw [Bt.mkF_no (by omega) e2, Bt.mkB_no (by omega) e2, Bool.eq_false_iff.2 e1]
      unfold mkW; rw [if_neg e1]
    · obtain ⟨e1, e2⟩ := mk_pk (by omega) h1 hq hq2 hm hk
      have e3 : okP m q = true := okP_iff.2 hk
      rw [Bt.mkF_ok (by omega) e1, Bt.mkB_ok e1, e2, mkW_ok e3, e3]
section
variable [Env]
theorem opt_add64 {P : Program} {t : TypeId} {a b r : AV} {x y z : Nat} (ha : gval a = .int .u64 x) (hb : gval b = .int .u64 y) (hr : ground r = true) (hv : gval r = .int .u64 z) (h : x + y = z) (h1 : z < 18446744073709551616) : OpT P [0, 0, t] [a, b] r :=
  opt_int (op := .add) ha hb hr hv fun w => by
    have : IntKind.u64.wrap ((x : Int) + (y : Int)) = z := by rw [IntKind.wrap_u64]; omega
    simp [binOp, Op.intArith, this]
theorem opt_odd {P : Program} {t : TypeId} {a b r : AV} {x : Nat} (ha : gval a = .int .u64 x) (hb : gval b = .int .u64 1) (hr : ground r = true) (hv : gval r = .int .u64 (x % 2 : Nat)) (h1 : x < 18446744073709551616) : OpT P [0, 5, t] [a, b] r :=
  opt_int (op := .and) ha hb hr hv fun w => by
    have : bits BinOp.and IntKind.u64 (x : Int) 1 = ((x % 2 : Nat) : Int) := by
      have e1 : (BitVec.ofInt 64 (x : Int)).toNat = x := by
        rw [BitVec.ofInt_natCast, BitVec.toNat_ofNat]; exact Nat.mod_eq_of_lt (by omega)
      have e2 : (BitVec.ofInt 64 (1 : Int)).toNat = 1 := by decide
      show IntKind.u64.wrap ((BitVec.ofInt 64 (x : Int) &&& BitVec.ofInt 64 (1 : Int)).toNat : Int) = _
      rw [BitVec.toNat_and, e1, e2, Nat.and_one_is_mod, IntKind.wrap_u64]
      omega
    go_simp
end
end Go.Proofs.YtajcapliokblfaaGreatDoor
set_option linter.unusedVariables false
set_option linter.unusedSimpArgs false
namespace Go.Proofs.YtajcapliokblfaaGreatDoor
open Go Go.RowKit Nt
@[reducible] def RF_Near_f0_f : FuncId := 140
@[reducible] def RF_Near_f0_a : List AV := [.lit (.bool false), .sym 0, .sym 1, .lit (.int .u8 0), .lit (.func (.func 90) #[] #[])]
@[reducible] noncomputable def RF_Near_f0_k : Know := ⟨[],
  [(178, [.lit (.bool false), .sym 0, .sym 1], .tup [.sym 2, .lit (.bool true)])]⟩
theorem RF_Near_f0_r1 : @comes RF_Near_f0_k Tryz.prog glT 3000 RF_Near_f0_f RF_Near_f0_a = some (.sym 2) := by kernel_rfl
set_option maxRecDepth 100000 in
set_option maxHeartbeats 4000000 in
theorem RF_Near_f0 (m : Nat) (q : Int) (w : World) (hG : Globs glT w) (hm : m < 9007199254740992) (hq1 : -1074 ≤ q) (hq2 : q ≤ 971) (hmn : 4503599627370496 ≤ m ∨ q = -1074) : Calls Tryz.prog 140 #[.bool false, .int .u64 (((m : Nat) : Int)), .int .i64 q, .int .u8 0, .func (.func 90) #[] #[]] w fun e w' => e = .returned (.float .f64 (Bt.wf false (pk (m) q))) ∧ Below w.heap.size w w' := by
  have h1 : okP m q = true := okP_lt hm
  have i1 : true = true ↔ (okP m q = true) := ⟨fun _ => h1, fun _ => rfl⟩
  letI : Env := mkEnv glT [.int .u64 (((m : Nat) : Int)), .int .i64 q, .float .f64 (mkW false m q)] rfl
  have hops : OpsT Tryz.prog (@Know.ops RF_Near_f0_k) := trivial
  have hcalls : CallsT Tryz.prog (@Know.calls RF_Near_f0_k) := ⟨callt rfl rfl fun w hG => bMake_i false m q w (by omega) hq1 hq2 hmn i1 hG,
    trivial⟩
  have fin : ∀ v, @comes RF_Near_f0_k Tryz.prog glT 3000 RF_Near_f0_f RF_Near_f0_a = some v → ground v = true → Ending.returned (gval v) = .returned (.float .f64 (Bt.wf false (pk (m) q))) → Calls Tryz.prog 140 #[.bool false, .int .u64 (((m : Nat) : Int)), .int .i64 q, .int .u8 0, .func (.func 90) #[] #[]] w fun e w' => e = .returned (.float .f64 (Bt.wf false (pk (m) q))) ∧ Below w.heap.size w w' := fun v h1 h2 h3 => (@sym_ok _ RF_Near_f0_k _ (@KnowOk.of _ RF_Near_f0_k _ hops hcalls) (by kernel_rfl) _ _ _ _ h1 rfl h2 _ hG).mono fun e w' h => ⟨h.1.trans h3, h.2⟩
  clear hops hcalls
  exact fin _ (RF_Near_f0_r1) rfl (show Ending.returned (.float .f64 (mkW false m q)) = .returned (.float .f64 (Bt.wf false (pk (m) q))) from by rw [mkW_ok h1])
@[reducible] def RF_Near_f1_f : FuncId := 140
@[reducible] def RF_Near_f1_a : List AV := [.lit (.bool false), .sym 0, .sym 1, .lit (.int .u8 1), .lit (.func (.func 90) #[] #[])]
@[reducible] noncomputable def RF_Near_f1_k (b2 : Bool) : Know := ⟨[([0, 5, 66], [.sym 0, .lit (.int .u64 1)], .sym 3),
  ([0, 11, 66], [.sym 3, .lit (.int .u64 1)], .lit (.bool b2))],
  [(178, [.lit (.bool false), .sym 0, .sym 1], .tup [.sym 2, .lit (.bool true)])]⟩
theorem RF_Near_f1_r1 : @comes (RF_Near_f1_k true) Tryz.prog glT 3000 RF_Near_f1_f RF_Near_f1_a = some (.sym 2) := by kernel_rfl
theorem RF_Near_f1_r2 : @comes (RF_Near_f1_k false) Tryz.prog glT 3000 RF_Near_f1_f RF_Near_f1_a = some (.sym 2) := by kernel_rfl
set_option maxRecDepth 100000 in
set_option maxHeartbeats 4000000 in
theorem RF_Near_f1 (m : Nat) (q : Int) (w : World) (hG : Globs glT w) (hm : m < 9007199254740992) (hq1 : -1074 ≤ q) (hq2 : q ≤ 971) (hmn : 4503599627370496 ≤ m ∨ q = -1074) : Calls Tryz.prog 140 #[.bool false, .int .u64 (((m : Nat) : Int)), .int .i64 q, .int .u8 1, .func (.func 90) #[] #[]] w fun e w' => e = .returned (.float .f64 (Bt.wf false (pk (m) q))) ∧ Below w.heap.size w w' := by
  have h1 : okP m q = true := okP_lt hm
  have i1 : true = true ↔ (okP m q = true) := ⟨fun _ => h1, fun _ => rfl⟩
  obtain ⟨b2, i2⟩ := bex (((m % 2 : Nat) : Int) = 1)
  letI : Env := mkEnv glT [.int .u64 (((m : Nat) : Int)), .int .i64 q, .float .f64 (mkW false m q), .int .u64 (((m % 2 : Nat) : Int))] rfl
  have hops : OpsT Tryz.prog (@Know.ops (RF_Near_f1_k b2)) := ⟨opt_odd rfl rfl rfl rfl (by omega),
    opt_eql_i rfl rfl i2,
    trivial⟩
  have hcalls : CallsT Tryz.prog (@Know.calls (RF_Near_f1_k b2)) := ⟨callt rfl rfl fun w hG => bMake_i false m q w (by omega) hq1 hq2 hmn i1 hG,
    trivial⟩
  have fin : ∀ v, @comes (RF_Near_f1_k b2) Tryz.prog glT 3000 RF_Near_f1_f RF_Near_f1_a = some v → ground v = true → Ending.returned (gval v) = .returned (.float .f64 (Bt.wf false (pk (m) q))) → Calls Tryz.prog 140 #[.bool false, .int .u64 (((m : Nat) : Int)), .int .i64 q, .int .u8 1, .func (.func 90) #[] #[]] w fun e w' => e = .returned (.float .f64 (Bt.wf false (pk (m) q))) ∧ Below w.heap.size w w' := fun v h1 h2 h3 => (@sym_ok _ (RF_Near_f1_k b2) _ (@KnowOk.of _ (RF_Near_f1_k b2) _ hops hcalls) (by kernel_rfl) _ _ _ _ h1 rfl h2 _ hG).mono fun e w' h => ⟨h.1.trans h3, h.2⟩
  clear hops hcalls
  cases b2 with
  | true =>
    have h2 : ((m % 2 : Nat) : Int) = 1 := i2.1 rfl
    exact fin _ (RF_Near_f1_r1) rfl (show Ending.returned (.float .f64 (mkW false m q)) = .returned (.float .f64 (Bt.wf false (pk (m) q))) from by rw [mkW_ok h1])
  | false =>
    have h2 : ¬ (((m % 2 : Nat) : Int) = 1) := fun c => Bool.false_ne_true (i2.2 c)
    exact fin _ (RF_Near_f1_r2) rfl (show Ending.returned (.float .f64 (mkW false m q)) = .returned (.float .f64 (Bt.wf false (pk (m) q))) from by rw [mkW_ok h1])
@[reducible] def RF_Near_f2o_f : FuncId := 140
@[reducible] def RF_Near_f2o_a : List AV := [.lit (.bool false), .sym 0, .sym 1, .lit (.int .u8 2), .lit (.func (.func 90) #[] #[])]
@[reducible] noncomputable def RF_Near_f2o_k (b1 b2 b3 : Bool) : Know := ⟨[([0, 5, 66], [.sym 0, .lit (.int .u64 1)], .sym 2),
  ([0, 11, 66], [.sym 2, .lit (.int .u64 1)], .lit (.bool b1)),
  ([0, 0, 66], [.sym 0, .lit (.int .u64 1)], .sym 3)],
  [(178, [.lit (.bool false), .sym 3, .sym 1], .tup [.sym 4, .lit (.bool b2)]),
  (178, [.lit (.bool false), .sym 0, .sym 1], .tup [.sym 5, .lit (.bool b3)])]⟩
theorem RF_Near_f2o_r1 (b3 : Bool) : @comes (RF_Near_f2o_k true true b3) Tryz.prog glT 3000 RF_Near_f2o_f RF_Near_f2o_a = some (.sym 4) := by kernel_rfl
theorem RF_Near_f2o_r2 (b3 : Bool) : @comes (RF_Near_f2o_k true false b3) Tryz.prog glT 3000 RF_Near_f2o_f RF_Near_f2o_a = some (.lit (.float .f64 9218868437227405312)) := by kernel_rfl
set_option maxRecDepth 100000 in
set_option maxHeartbeats 4000000 in
theorem RF_Near_f2o (m : Nat) (q : Int) (w : World) (hG : Globs glT w) (hm : m < 9007199254740992) (hq1 : -1074 ≤ q) (hq2 : q ≤ 971) (hmn : 4503599627370496 ≤ m ∨ q = -1074) (ho : m % 2 = 1) : Calls Tryz.prog 140 #[.bool false, .int .u64 (((m : Nat) : Int)), .int .i64 q, .int .u8 2, .func (.func 90) #[] #[]] w fun e w' => e = .returned (.float .f64 (Bt.wf false (pk (m + 1) q))) ∧ Below w.heap.size w w' := by
  obtain ⟨b1, i1⟩ := bex (((m % 2 : Nat) : Int) = 1)
  obtain ⟨b2, i2⟩ := bex (okP (m + 1) q = true)
  obtain ⟨b3, i3⟩ := bex (okP m q = true)
  letI : Env := mkEnv glT [.int .u64 (((m : Nat) : Int)), .int .i64 q, .int .u64 (((m % 2 : Nat) : Int)), .int .u64 (((m + 1 : Nat) : Int)), .float .f64 (mkW false (m + 1) q), .float .f64 (mkW false m q)] rfl
  have hops : OpsT Tryz.prog (@Know.ops (RF_Near_f2o_k b1 b2 b3)) := ⟨opt_odd rfl rfl rfl rfl (by omega),
    opt_eql_i rfl rfl i1,
    opt_add64 (y := 1) rfl rfl rfl rfl rfl (by omega),
    trivial⟩
  have hcalls : CallsT Tryz.prog (@Know.calls (RF_Near_f2o_k b1 b2 b3)) := ⟨callt rfl rfl fun w hG => bMake_i false (m + 1) q w (by omega) hq1 hq2 (hmn.imp (fun h => Nat.le_succ_of_le h) id) i2 hG,
    callt rfl rfl fun w hG => bMake_i false m q w (by omega) hq1 hq2 hmn i3 hG,
    trivial⟩
  have fin : ∀ v, @comes (RF_Near_f2o_k b1 b2 b3) Tryz.prog glT 3000 RF_Near_f2o_f RF_Near_f2o_a = some v → ground v = true → Ending.returned (gval v) = .returned (.float .f64 (Bt.wf false (pk (m + 1) q))) → Calls Tryz.prog 140 #[.bool false, .int .u64 (((m : Nat) : Int)), .int .i64 q, .int .u8 2, .func (.func 90) #[] #[]] w fun e w' => e = .returned (.float .f64 (Bt.wf false (pk (m + 1) q))) ∧ Below w.heap.size w w' := fun v h1 h2 h3 => (@sym_ok _ (RF_Near_f2o_k b1 b2 b3) _ (@KnowOk.of _ (RF_Near_f2o_k b1 b2 b3) _ hops hcalls) (by kernel_rfl) _ _ _ _ h1 rfl h2 _ hG).mono fun e w' h => ⟨h.1.trans h3, h.2⟩
  clear hops hcalls
  cases b1 with
  | true =>
    have h1 : ((m % 2 : Nat) : Int) = 1 := i1.1 rfl
    cases b2 with
    | true =>
      have h2 : okP (m + 1) q = true := i2.1 rfl
      exact fin _ (RF_Near_f2o_r1 b3) rfl (show Ending.returned (.float .f64 (mkW false (m + 1) q)) = .returned (.float .f64 (Bt.wf false (pk (m + 1) q))) from by rw [mkW_ok h2])
    | false =>
      have h2 : ¬ (okP (m + 1) q = true) := fun c => Bool.false_ne_true (i2.2 c)
      exact fin _ (RF_Near_f2o_r2 b3) rfl (show Ending.returned (.float .f64 9218868437227405312) = .returned (.float .f64 (Bt.wf false (pk (m + 1) q))) from by rw [inf_f h2])
  | false =>
    exact absurd (i1.2 ((by omega))) Bool.false_ne_true
@[reducible] def RF_Near_f2e_f : FuncId := 140
@[reducible] def RF_Near_f2e_a : List AV := [.lit (.bool false), .sym 0, .sym 1, .lit (.int .u8 2), .lit (.func (.func 90) #[] #[])]
@[reducible] noncomputable def RF_Near_f2e_k (b1 b2 : Bool) : Know := ⟨[([0, 5, 66], [.sym 0, .lit (.int .u64 1)], .sym 2),
  ([0, 11, 66], [.sym 2, .lit (.int .u64 1)], .lit (.bool b1)),
  ([0, 0, 66], [.sym 0, .lit (.int .u64 1)], .sym 3)],
  [(178, [.lit (.bool false), .sym 3, .sym 1], .tup [.sym 4, .lit (.bool b2)]),
  (178, [.lit (.bool false), .sym 0, .sym 1], .tup [.sym 5, .lit (.bool true)])]⟩
theorem RF_Near_f2e_r1 (b2 : Bool) : @comes (RF_Near_f2e_k false b2) Tryz.prog glT 3000 RF_Near_f2e_f RF_Near_f2e_a = some (.sym 5) := by kernel_rfl
set_option maxRecDepth 100000 in
set_option maxHeartbeats 4000000 in
theorem RF_Near_f2e (m : Nat) (q : Int) (w : World) (hG : Globs glT w) (hm : m < 9007199254740992) (hq1 : -1074 ≤ q) (hq2 : q ≤ 971) (hmn : 4503599627370496 ≤ m ∨ q = -1074) (ho : m % 2 = 0) : Calls Tryz.prog 140 #[.bool false, .int .u64 (((m : Nat) : Int)), .int .i64 q, .int .u8 2, .func (.func 90) #[] #[]] w fun e w' => e = .returned (.float .f64 (Bt.wf false (pk (m) q))) ∧ Below w.heap.size w w' := by
  obtain ⟨b1, i1⟩ := bex (((m % 2 : Nat) : Int) = 1)
  obtain ⟨b2, i2⟩ := bex (okP (m + 1) q = true)
  have h3 : okP m q = true := okP_lt hm
  have i3 : true = true ↔ (okP m q = true) := ⟨fun _ => h3, fun _ => rfl⟩
  letI : Env := mkEnv glT [.int .u64 (((m : Nat) : Int)), .int .i64 q, .int .u64 (((m % 2 : Nat) : Int)), .int .u64 (((m + 1 : Nat) : Int)), .float .f64 (mkW false (m + 1) q), .float .f64 (mkW false m q)] rfl
  have hops : OpsT Tryz.prog (@Know.ops (RF_Near_f2e_k b1 b2)) := ⟨opt_odd rfl rfl rfl rfl (by omega),
    opt_eql_i rfl rfl i1,
    opt_add64 (y := 1) rfl rfl rfl rfl rfl (by omega),
    trivial⟩
  have hcalls : CallsT Tryz.prog (@Know.calls (RF_Near_f2e_k b1 b2)) := ⟨callt rfl rfl fun w hG => bMake_i false (m + 1) q w (by omega) hq1 hq2 (hmn.imp (fun h => Nat.le_succ_of_le h) id) i2 hG,
    callt rfl rfl fun w hG => bMake_i false m q w (by omega) hq1 hq2 hmn i3 hG,
    trivial⟩
  have fin : ∀ v, @comes (RF_Near_f2e_k b1 b2) Tryz.prog glT 3000 RF_Near_f2e_f RF_Near_f2e_a = some v → ground v = true → Ending.returned (gval v) = .returned (.float .f64 (Bt.wf false (pk (m) q))) → Calls Tryz.prog 140 #[.bool false, .int .u64 (((m : Nat) : Int)), .int .i64 q, .int .u8 2, .func (.func 90) #[] #[]] w fun e w' => e = .returned (.float .f64 (Bt.wf false (pk (m) q))) ∧ Below w.heap.size w w' := fun v h1 h2 h3 => (@sym_ok _ (RF_Near_f2e_k b1 b2) _ (@KnowOk.of _ (RF_Near_f2e_k b1 b2) _ hops hcalls) (by kernel_rfl) _ _ _ _ h1 rfl h2 _ hG).mono fun e w' h => ⟨h.1.trans h3, h.2⟩
  clear hops hcalls
  cases b1 with
  | true =>
    exact absurd (i1.1 rfl) ((by omega))
  | false =>
    have h1 : ¬ (((m % 2 : Nat) : Int) = 1) := fun c => Bool.false_ne_true (i1.2 c)
    exact fin _ (RF_Near_f2e_r1 b2) rfl (show Ending.returned (.float .f64 (mkW false m q)) = .returned (.float .f64 (Bt.wf false (pk (m) q))) from by rw [mkW_ok h3])
@[reducible] def RF_Near_f3_f : FuncId := 140
@[reducible] def RF_Near_f3_a : List AV := [.lit (.bool false), .sym 0, .sym 1, .lit (.int .u8 3), .lit (.func (.func 90) #[] #[])]
@[reducible] noncomputable def RF_Near_f3_k (b1 b2 : Bool) : Know := ⟨[([0, 5, 66], [.sym 0, .lit (.int .u64 1)], .sym 2),
  ([0, 11, 66], [.sym 2, .lit (.int .u64 1)], .lit (.bool b1)),
  ([0, 0, 66], [.sym 0, .lit (.int .u64 1)], .sym 3)],
  [(178, [.lit (.bool false), .sym 3, .sym 1], .tup [.sym 4, .lit (.bool b2)])]⟩
theorem RF_Near_f3_r1 : @comes (RF_Near_f3_k true true) Tryz.prog glT 3000 RF_Near_f3_f RF_Near_f3_a = some (.sym 4) := by kernel_rfl
theorem RF_Near_f3_r2 : @comes (RF_Near_f3_k true false) Tryz.prog glT 3000 RF_Near_f3_f RF_Near_f3_a = some (.lit (.float .f64 9218868437227405312)) := by kernel_rfl
theorem RF_Near_f3_r3 : @comes (RF_Near_f3_k false true) Tryz.prog glT 3000 RF_Near_f3_f RF_Near_f3_a = some (.sym 4) := by kernel_rfl
theorem RF_Near_f3_r4 : @comes (RF_Near_f3_k false false) Tryz.prog glT 3000 RF_Near_f3_f RF_Near_f3_a = some (.lit (.float .f64 9218868437227405312)) := by kernel_rfl
set_option maxRecDepth 100000 in
set_option maxHeartbeats 4000000 in
theorem RF_Near_f3 (m : Nat) (q : Int) (w : World) (hG : Globs glT w) (hm : m < 9007199254740992) (hq1 : -1074 ≤ q) (hq2 : q ≤ 971) (hmn : 4503599627370496 ≤ m ∨ q = -1074) : Calls Tryz.prog 140 #[.bool false, .int .u64 (((m : Nat) : Int)), .int .i64 q, .int .u8 3, .func (.func 90) #[] #[]] w fun e w' => e = .returned (.float .f64 (Bt.wf false (pk (m + 1) q))) ∧ Below w.heap.size w w' := by
  obtain ⟨b1, i1⟩ := bex (((m % 2 : Nat) : Int) = 1)
  obtain ⟨b2, i2⟩ := bex (okP (m + 1) q = true)
  letI : Env := mkEnv glT [.int .u64 (((m : Nat) : Int)), .int .i64 q, .int .u64 (((m % 2 : Nat) : Int)), .int .u64 (((m + 1 : Nat) : Int)), .float .f64 (mkW false (m + 1) q)] rfl
  have hops : OpsT Tryz.prog (@Know.ops (RF_Near_f3_k b1 b2)) := ⟨opt_odd rfl rfl rfl rfl (by omega),
    opt_eql_i rfl rfl i1,
    opt_add64 (y := 1) rfl rfl rfl rfl rfl (by omega),
    trivial⟩
  have hcalls : CallsT Tryz.prog (@Know.calls (RF_Near_f3_k b1 b2)) := ⟨callt rfl rfl fun w hG => bMake_i false (m + 1) q w (by omega) hq1 hq2 (hmn.imp (fun h => Nat.le_succ_of_le h) id) i2 hG,
    trivial⟩
  have fin : ∀ v, @comes (RF_Near_f3_k b1 b2) Tryz.prog glT 3000 RF_Near_f3_f RF_Near_f3_a = some v → ground v = true → Ending.returned (gval v) = .returned (.float .f64 (Bt.wf false (pk (m + 1) q))) → Calls Tryz.prog 140 #[.bool false, .int .u64 (((m : Nat) : Int)), .int .i64 q, .int .u8 3, .func (.func 90) #[] #[]] w fun e w' => e = .returned (.float .f64 (Bt.wf false (pk (m + 1) q))) ∧ Below w.heap.size w w' := fun v h1 h2 h3 => (@sym_ok _ (RF_Near_f3_k b1 b2) _ (@KnowOk.of _ (RF_Near_f3_k b1 b2) _ hops hcalls) (by kernel_rfl) _ _ _ _ h1 rfl h2 _ hG).mono fun e w' h => ⟨h.1.trans h3, h.2⟩
  clear hops hcalls
  cases b1 with
  | true =>
    have h1 : ((m % 2 : Nat) : Int) = 1 := i1.1 rfl
    cases b2 with
    | true =>
      have h2 : okP (m + 1) q = true := i2.1 rfl
      exact fin _ (RF_Near_f3_r1) rfl (show Ending.returned (.float .f64 (mkW false (m + 1) q)) = .returned (.float .f64 (Bt.wf false (pk (m + 1) q))) from by rw [mkW_ok h2])
    | false =>
      have h2 : ¬ (okP (m + 1) q = true) := fun c => Bool.false_ne_true (i2.2 c)
      exact fin _ (RF_Near_f3_r2) rfl (show Ending.returned (.float .f64 9218868437227405312) = .returned (.float .f64 (Bt.wf false (pk (m + 1) q))) from by rw [inf_f h2])
  | false =>
    have h1 : ¬ (((m % 2 : Nat) : Int) = 1) := fun c => Bool.false_ne_true (i1.2 c)
    cases b2 with
    | true =>
      have h2 : okP (m + 1) q = true := i2.1 rfl
      exact fin _ (RF_Near_f3_r3) rfl (show Ending.returned (.float .f64 (mkW false (m + 1) q)) = .returned (.float .f64 (Bt.wf false (pk (m + 1) q))) from by rw [mkW_ok h2])
    | false =>
      have h2 : ¬ (okP (m + 1) q = true) := fun c => Bool.false_ne_true (i2.2 c)
      exact fin _ (RF_Near_f3_r4) rfl (show Ending.returned (.float .f64 9218868437227405312) = .returned (.float .f64 (Bt.wf false (pk (m + 1) q))) from by rw [inf_f h2])
@[reducible] def RF_Near_t0_f : FuncId := 140
@[reducible] def RF_Near_t0_a : List AV := [.lit (.bool true), .sym 0, .sym 1, .lit (.int .u8 0), .lit (.func (.func 90) #[] #[])]
@[reducible] noncomputable def RF_Near_t0_k : Know := ⟨[],
  [(178, [.lit (.bool true), .sym 0, .sym 1], .tup [.sym 2, .lit (.bool true)])]⟩
theorem RF_Near_t0_r1 : @comes RF_Near_t0_k Tryz.prog glT 3000 RF_Near_t0_f RF_Near_t0_a = some (.sym 2) := by kernel_rfl
set_option maxRecDepth 100000 in
set_option maxHeartbeats 4000000 in
theorem RF_Near_t0 (m : Nat) (q : Int) (w : World) (hG : Globs glT w) (hm : m < 9007199254740992) (hq1 : -1074 ≤ q) (hq2 : q ≤ 971) (hmn : 4503599627370496 ≤ m ∨ q = -1074) : Calls Tryz.prog 140 #[.bool true, .int .u64 (((m : Nat) : Int)), .int .i64 q, .int .u8 0, .func (.func 90) #[] #[]] w fun e w' => e = .returned (.float .f64 (Bt.wf true (pk (m) q))) ∧ Below w.heap.size w w' := by
  have h1 : okP m q = true := okP_lt hm
  have i1 : true = true ↔ (okP m q = true) := ⟨fun _ => h1, fun _ => rfl⟩
  letI : Env := mkEnv glT [.int .u64 (((m : Nat) : Int)), .int .i64 q, .float .f64 (mkW true m q)] rfl
  have hops : OpsT Tryz.prog (@Know.ops RF_Near_t0_k) := trivial
  have hcalls : CallsT Tryz.prog (@Know.calls RF_Near_t0_k) := ⟨callt rfl rfl fun w hG => bMake_i true m q w (by omega) hq1 hq2 hmn i1 hG,
    trivial⟩
  have fin : ∀ v, @comes RF_Near_t0_k Tryz.prog glT 3000 RF_Near_t0_f RF_Near_t0_a = some v → ground v = true → Ending.returned (gval v) = .returned (.float .f64 (Bt.wf true (pk (m) q))) → Calls Tryz.prog 140 #[.bool true, .int .u64 (((m : Nat) : Int)), .int .i64 q, .int .u8 0, .func (.func 90) #[] #[]] w fun e w' => e = .returned (.float .f64 (Bt.wf true (pk (m) q))) ∧ Below w.heap.size w w' := fun v h1 h2 h3 => (@sym_ok _ RF_Near_t0_k _ (@KnowOk.of _ RF_Near_t0_k _ hops hcalls) (by kernel_rfl) _ _ _ _ h1 rfl h2 _ hG).mono fun e w' h => ⟨h.1.trans h3, h.2⟩
  clear hops hcalls
  exact fin _ (RF_Near_t0_r1) rfl (show Ending.returned (.float .f64 (mkW true m q)) = .returned (.float .f64 (Bt.wf true (pk (m) q))) from by rw [mkW_ok h1])
@[reducible] def RF_Near_t1_f : FuncId := 140
@[reducible] def RF_Near_t1_a : List AV := [.lit (.bool true), .sym 0, .sym 1, .lit (.int .u8 1), .lit (.func (.func 90) #[] #[])]
@[reducible] noncomputable def RF_Near_t1_k (b2 : Bool) : Know := ⟨[([0, 5, 66], [.sym 0, .lit (.int .u64 1)], .sym 3),
  ([0, 11, 66], [.sym 3, .lit (.int .u64 1)], .lit (.bool b2))],
  [(178, [.lit (.bool true), .sym 0, .sym 1], .tup [.sym 2, .lit (.bool true)])]⟩
theorem RF_Near_t1_r1 : @comes (RF_Near_t1_k true) Tryz.prog glT 3000 RF_Near_t1_f RF_Near_t1_a = some (.sym 2) := by kernel_rfl
theorem RF_Near_t1_r2 : @comes (RF_Near_t1_k false) Tryz.prog glT 3000 RF_Near_t1_f RF_Near_t1_a = some (.sym 2) := by kernel_rfl
set_option maxRecDepth 100000 in
set_option maxHeartbeats 4000000 in
theorem RF_Near_t1 (m : Nat) (q : Int) (w : World) (hG : Globs glT w) (hm : m < 9007199254740992) (hq1 : -1074 ≤ q) (hq2 : q ≤ 971) (hmn : 4503599627370496 ≤ m ∨ q = -1074) : Calls Tryz.prog 140 #[.bool true, .int .u64 (((m : Nat) : Int)), .int .i64 q, .int .u8 1, .func (.func 90) #[] #[]] w fun e w' => e = .returned (.float .f64 (Bt.wf true (pk (m) q))) ∧ Below w.heap.size w w' := by
  have h1 : okP m q = true := okP_lt hm
  have i1 : true = true ↔ (okP m q = true) := ⟨fun _ => h1, fun _ => rfl⟩
  obtain ⟨b2, i2⟩ := bex (((m % 2 : Nat) : Int) = 1)
  letI : Env := mkEnv glT [.int .u64 (((m : Nat) : Int)), .int .i64 q, .float .f64 (mkW true m q), .int .u64 (((m % 2 : Nat) : Int))] rfl
  have hops : OpsT Tryz.prog (@Know.ops (RF_Near_t1_k b2)) := ⟨opt_odd rfl rfl rfl rfl (by omega),
    opt_eql_i rfl rfl i2,
    trivial⟩
  have hcalls : CallsT Tryz.prog (@Know.calls (RF_Near_t1_k b2)) := ⟨callt rfl rfl fun w hG => bMake_i true m q w (by omega) hq1 hq2 hmn i1 hG,
    trivial⟩
  have fin : ∀ v, @comes (RF_Near_t1_k b2) Tryz.prog glT 3000 RF_Near_t1_f RF_Near_t1_a = some v → ground v = true → Ending.returned (gval v) = .returned (.float .f64 (Bt.wf true (pk (m) q))) → Calls Tryz.prog 140 #[.bool true, .int .u64 (((m : Nat) : Int)), .int .i64 q, .int .u8 1, .func (.func 90) #[] #[]] w fun e w' => e = .returned (.float .f64 (Bt.wf true (pk (m) q))) ∧ Below w.heap.size w w' := fun v h1 h2 h3 => (@sym_ok _ (RF_Near_t1_k b2) _ (@KnowOk.of _ (RF_Near_t1_k b2) _ hops hcalls) (by kernel_rfl) _ _ _ _ h1 rfl h2 _ hG).mono fun e w' h => ⟨h.1.trans h3, h.2⟩
  clear hops hcalls
  cases b2 with
  | true =>
    have h2 : ((m % 2 : Nat) : Int) = 1 := i2.1 rfl
    exact fin _ (RF_Near_t1_r1) rfl (show Ending.returned (.float .f64 (mkW true m q)) = .returned (.float .f64 (Bt.wf true (pk (m) q))) from by rw [mkW_ok h1])
  | false =>
    have h2 : ¬ (((m % 2 : Nat) : Int) = 1) := fun c => Bool.false_ne_true (i2.2 c)
    exact fin _ (RF_Near_t1_r2) rfl (show Ending.returned (.float .f64 (mkW true m q)) = .returned (.float .f64 (Bt.wf true (pk (m) q))) from by rw [mkW_ok h1])
@[reducible] def RF_Near_t2o_f : FuncId := 140
@[reducible] def RF_Near_t2o_a : List AV := [.lit (.bool true), .sym 0, .sym 1, .lit (.int .u8 2), .lit (.func (.func 90) #[] #[])]
@[reducible] noncomputable def RF_Near_t2o_k (b1 b2 b3 : Bool) : Know := ⟨[([0, 5, 66], [.sym 0, .lit (.int .u64 1)], .sym 2),
  ([0, 11, 66], [.sym 2, .lit (.int .u64 1)], .lit (.bool b1)),
  ([0, 0, 66], [.sym 0, .lit (.int .u64 1)], .sym 3)],
  [(178, [.lit (.bool true), .sym 3, .sym 1], .tup [.sym 4, .lit (.bool b2)]),
  (178, [.lit (.bool true), .sym 0, .sym 1], .tup [.sym 5, .lit (.bool b3)])]⟩
theorem RF_Near_t2o_r1 (b3 : Bool) : @comes (RF_Near_t2o_k true true b3) Tryz.prog glT 3000 RF_Near_t2o_f RF_Near_t2o_a = some (.sym 4) := by kernel_rfl
theorem RF_Near_t2o_r2 (b3 : Bool) : @comes (RF_Near_t2o_k true false b3) Tryz.prog glT 3000 RF_Near_t2o_f RF_Near_t2o_a = some (.lit (.float .f64 18442240474082181120)) := by kernel_rfl
set_option maxRecDepth 100000 in
set_option maxHeartbeats 4000000 in
theorem RF_Near_t2o (m : Nat) (q : Int) (w : World) (hG : Globs glT w) (hm : m < 9007199254740992) (hq1 : -1074 ≤ q) (hq2 : q ≤ 971) (hmn : 4503599627370496 ≤ m ∨ q = -1074) (ho : m % 2 = 1) : Calls Tryz.prog 140 #[.bool true, .int .u64 (((m : Nat) : Int)), .int .i64 q, .int .u8 2, .func (.func 90) #[] #[]] w fun e w' => e = .returned (.float .f64 (Bt.wf true (pk (m + 1) q))) ∧ Below w.heap.size w w' := by
  obtain ⟨b1, i1⟩ := bex (((m % 2 : Nat) : Int) = 1)
  obtain ⟨b2, i2⟩ := bex (okP (m + 1) q = true)
  obtain ⟨b3, i3⟩ := bex (okP m q = true)
  letI : Env := mkEnv glT [.int .u64 (((m : Nat) : Int)), .int .i64 q, .int .u64 (((m % 2 : Nat) : Int)), .int .u64 (((m + 1 : Nat) : Int)), .float .f64 (mkW true (m + 1) q), .float .f64 (mkW true m q)] rfl
  have hops : OpsT Tryz.prog (@Know.ops (RF_Near_t2o_k b1 b2 b3)) := ⟨opt_odd rfl rfl rfl rfl (by omega),
    opt_eql_i rfl rfl i1,
    opt_add64 (y := 1) rfl rfl rfl rfl rfl (by omega),
    trivial⟩
  have hcalls : CallsT Tryz.prog (@Know.calls (RF_Near_t2o_k b1 b2 b3)) := ⟨callt rfl rfl fun w hG => bMake_i true (m + 1) q w (by omega) hq1 hq2 (hmn.imp (fun h => Nat.le_succ_of_le h) id) i2 hG,
    callt rfl rfl fun w hG => bMake_i true m q w (by omega) hq1 hq2 hmn i3 hG,
    trivial⟩
  have fin : ∀ v, @comes (RF_Near_t2o_k b1 b2 b3) Tryz.prog glT 3000 RF_Near_t2o_f RF_Near_t2o_a = some v → ground v = true → Ending.returned (gval v) = .returned (.float .f64 (Bt.wf true (pk (m + 1) q))) → Calls Tryz.prog 140 #[.bool true, .int .u64 (((m : Nat) : Int)), .int .i64 q, .int .u8 2, .func (.func 90) #[] #[]] w fun e w' => e = .returned (.float .f64 (Bt.wf true (pk (m + 1) q))) ∧ Below w.heap.size w w' := fun v h1 h2 h3 => (@sym_ok _ (RF_Near_t2o_k b1 b2 b3) _ (@KnowOk.of _ (RF_Near_t2o_k b1 b2 b3) _ hops hcalls) (by kernel_rfl) _ _ _ _ h1 rfl h2 _ hG).mono fun e w' h => ⟨h.1.trans h3, h.2⟩
  clear hops hcalls
  cases b1 with
  | true =>
    have h1 : ((m % 2 : Nat) : Int) = 1 := i1.1 rfl
    cases b2 with
    | true =>
      have h2 : okP (m + 1) q = true := i2.1 rfl
      exact fin _ (RF_Near_t2o_r1 b3) rfl (show Ending.returned (.float .f64 (mkW true (m + 1) q)) = .returned (.float .f64 (Bt.wf true (pk (m + 1) q))) from by rw [mkW_ok h2])
    | false =>
      have h2 : ¬ (okP (m + 1) q = true) := fun c => Bool.false_ne_true (i2.2 c)
      exact fin _ (RF_Near_t2o_r2 b3) rfl (show Ending.returned (.float .f64 18442240474082181120) = .returned (.float .f64 (Bt.wf true (pk (m + 1) q))) from by rw [inf_t h2])
  | false =>
    exact absurd (i1.2 ((by omega))) Bool.false_ne_true
@[reducible] def RF_Near_t2e_f : FuncId := 140
@[reducible] def RF_Near_t2e_a : List AV := [.lit (.bool true), .sym 0, .sym 1, .lit (.int .u8 2), .lit (.func (.func 90) #[] #[])]
@[reducible] noncomputable def RF_Near_t2e_k (b1 b2 : Bool) : Know := ⟨[([0, 5, 66], [.sym 0, .lit (.int .u64 1)], .sym 2),
  ([0, 11, 66], [.sym 2, .lit (.int .u64 1)], .lit (.bool b1)),
  ([0, 0, 66], [.sym 0, .lit (.int .u64 1)], .sym 3)],
  [(178, [.lit (.bool true), .sym 3, .sym 1], .tup [.sym 4, .lit (.bool b2)]),
  (178, [.lit (.bool true), .sym 0, .sym 1], .tup [.sym 5, .lit (.bool true)])]⟩
theorem RF_Near_t2e_r1 (b2 : Bool) : @comes (RF_Near_t2e_k false b2) Tryz.prog glT 3000 RF_Near_t2e_f RF_Near_t2e_a = some (.sym 5) := by kernel_rfl
set_option maxRecDepth 100000 in
set_option maxHeartbeats 4000000 in
theorem RF_Near_t2e (m : Nat) (q : Int) (w : World) (hG : Globs glT w) (hm : m < 9007199254740992) (hq1 : -1074 ≤ q) (hq2 : q ≤ 971) (hmn : 4503599627370496 ≤ m ∨ q = -1074) (ho : m % 2 = 0) : Calls Tryz.prog 140 #[.bool true, .int .u64 (((m : Nat) : Int)), .int .i64 q, .int .u8 2, .func (.func 90) #[] #[]] w fun e w' => e = .returned (.float .f64 (Bt.wf true (pk (m) q))) ∧ Below w.heap.size w w' := by
  obtain ⟨b1, i1⟩ := bex (((m % 2 : Nat) : Int) = 1)
  obtain ⟨b2, i2⟩ := bex (okP (m + 1) q = true)
  have h3 : okP m q = true := okP_lt hm
  have i3 : true = true ↔ (okP m q = true) := ⟨fun _ => h3, fun _ => rfl⟩
  letI : Env := mkEnv glT [.int .u64 (((m : Nat) : Int)), .int .i64 q, .int .u64 (((m % 2 : Nat) : Int)), .int .u64 (((m + 1 : Nat) : Int)), .float .f64 (mkW true (m + 1) q), .float .f64 (mkW true m q)] rfl
  have hops : OpsT Tryz.prog (@Know.ops (RF_Near_t2e_k b1 b2)) := ⟨opt_odd rfl rfl rfl rfl (by omega),
    opt_eql_i rfl rfl i1,
    opt_add64 (y := 1) rfl rfl rfl rfl rfl (by omega),
    trivial⟩
  have hcalls : CallsT Tryz.prog (@Know.calls (RF_Near_t2e_k b1 b2)) := ⟨callt rfl rfl fun w hG => bMake_i true (m + 1) q w (by omega) hq1 hq2 (hmn.imp (fun h => Nat.le_succ_of_le h) id) i2 hG,
    callt rfl rfl fun w hG => bMake_i true m q w (by omega) hq1 hq2 hmn i3 hG,
    trivial⟩
  have fin : ∀ v, @comes (RF_Near_t2e_k b1 b2) Tryz.prog glT 3000 RF_Near_t2e_f RF_Near_t2e_a = some v → ground v = true → Ending.returned (gval v) = .returned (.float .f64 (Bt.wf true (pk (m) q))) → Calls Tryz.prog 140 #[.bool true, .int .u64 (((m : Nat) : Int)), .int .i64 q, .int .u8 2, .func (.func 90) #[] #[]] w fun e w' => e = .returned (.float .f64 (Bt.wf true (pk (m) q))) ∧ Below w.heap.size w w' := fun v h1 h2 h3 => (@sym_ok _ (RF_Near_t2e_k b1 b2) _ (@KnowOk.of _ (RF_Near_t2e_k b1 b2) _ hops hcalls) (by kernel_rfl) _ _ _ _ h1 rfl h2 _ hG).mono fun e w' h => ⟨h.1.trans h3, h.2⟩
  clear hops hcalls
  cases b1 with
  | true =>
    exact absurd (i1.1 rfl) ((by omega))
  | false =>
    have h1 : ¬ (((m % 2 : Nat) : Int) = 1) := fun c => Bool.false_ne_true (i1.2 c)
    exact fin _ (RF_Near_t2e_r1 b2) rfl (show Ending.returned (.float .f64 (mkW true m q)) = .returned (.float .f64 (Bt.wf true (pk (m) q))) from by rw [mkW_ok h3])
@[reducible] def RF_Near_t3_f : FuncId := 140
@[reducible] def RF_Near_t3_a : List AV := [.lit (.bool true), .sym 0, .sym 1, .lit (.int .u8 3), .lit (.func (.func 90) #[] #[])]
@[reducible] noncomputable def RF_Near_t3_k (b1 b2 : Bool) : Know := ⟨[([0, 5, 66], [.sym 0, .lit (.int .u64 1)], .sym 2),
  ([0, 11, 66], [.sym 2, .lit (.int .u64 1)], .lit (.bool b1)),
  ([0, 0, 66], [.sym 0, .lit (.int .u64 1)], .sym 3)],
  [(178, [.lit (.bool true), .sym 3, .sym 1], .tup [.sym 4, .lit (.bool b2)])]⟩
theorem RF_Near_t3_r1 : @comes (RF_Near_t3_k true true) Tryz.prog glT 3000 RF_Near_t3_f RF_Near_t3_a = some (.sym 4) := by kernel_rfl
theorem RF_Near_t3_r2 : @comes (RF_Near_t3_k true false) Tryz.prog glT 3000 RF_Near_t3_f RF_Near_t3_a = some (.lit (.float .f64 18442240474082181120)) := by kernel_rfl
theorem RF_Near_t3_r3 : @comes (RF_Near_t3_k false true) Tryz.prog glT 3000 RF_Near_t3_f RF_Near_t3_a = some (.sym 4) := by kernel_rfl
theorem RF_Near_t3_r4 : @comes (RF_Near_t3_k false false) Tryz.prog glT 3000 RF_Near_t3_f RF_Near_t3_a = some (.lit (.float .f64 18442240474082181120)) := by kernel_rfl
set_option maxRecDepth 100000 in
set_option maxHeartbeats 4000000 in
theorem RF_Near_t3 (m : Nat) (q : Int) (w : World) (hG : Globs glT w) (hm : m < 9007199254740992) (hq1 : -1074 ≤ q) (hq2 : q ≤ 971) (hmn : 4503599627370496 ≤ m ∨ q = -1074) : Calls Tryz.prog 140 #[.bool true, .int .u64 (((m : Nat) : Int)), .int .i64 q, .int .u8 3, .func (.func 90) #[] #[]] w fun e w' => e = .returned (.float .f64 (Bt.wf true (pk (m + 1) q))) ∧ Below w.heap.size w w' := by
  obtain ⟨b1, i1⟩ := bex (((m % 2 : Nat) : Int) = 1)
  obtain ⟨b2, i2⟩ := bex (okP (m + 1) q = true)
  letI : Env := mkEnv glT [.int .u64 (((m : Nat) : Int)), .int .i64 q, .int .u64 (((m % 2 : Nat) : Int)), .int .u64 (((m + 1 : Nat) : Int)), .float .f64 (mkW true (m + 1) q)] rfl
  have hops : OpsT Tryz.prog (@Know.ops (RF_Near_t3_k b1 b2)) := ⟨opt_odd rfl rfl rfl rfl (by omega),
    opt_eql_i rfl rfl i1,
    opt_add64 (y := 1) rfl rfl rfl rfl rfl (by omega),
    trivial⟩
  have hcalls : CallsT Tryz.prog (@Know.calls (RF_Near_t3_k b1 b2)) := ⟨callt rfl rfl fun w hG => bMake_i true (m + 1) q w (by omega) hq1 hq2 (hmn.imp (fun h => Nat.le_succ_of_le h) id) i2 hG,
    trivial⟩
  have fin : ∀ v, @comes (RF_Near_t3_k b1 b2) Tryz.prog glT 3000 RF_Near_t3_f RF_Near_t3_a = some v → ground v = true → Ending.returned (gval v) = .returned (.float .f64 (Bt.wf true (pk (m + 1) q))) → Calls Tryz.prog 140 #[.bool true, .int .u64 (((m : Nat) : Int)), .int .i64 q, .int .u8 3, .func (.func 90) #[] #[]] w fun e w' => e = .returned (.float .f64 (Bt.wf true (pk (m + 1) q))) ∧ Below w.heap.size w w' := fun v h1 h2 h3 => (@sym_ok _ (RF_Near_t3_k b1 b2) _ (@KnowOk.of _ (RF_Near_t3_k b1 b2) _ hops hcalls) (by kernel_rfl) _ _ _ _ h1 rfl h2 _ hG).mono fun e w' h => ⟨h.1.trans h3, h.2⟩
  clear hops hcalls
  cases b1 with
  | true =>
    have h1 : ((m % 2 : Nat) : Int) = 1 := i1.1 rfl
    cases b2 with
    | true =>
      have h2 : okP (m + 1) q = true := i2.1 rfl
      exact fin _ (RF_Near_t3_r1) rfl (show Ending.returned (.float .f64 (mkW true (m + 1) q)) = .returned (.float .f64 (Bt.wf true (pk (m + 1) q))) from by rw [mkW_ok h2])
    | false =>
      have h2 : ¬ (okP (m + 1) q = true) := fun c => Bool.false_ne_true (i2.2 c)
      exact fin _ (RF_Near_t3_r2) rfl (show Ending.returned (.float .f64 18442240474082181120) = .returned (.float .f64 (Bt.wf true (pk (m + 1) q))) from by rw [inf_t h2])
  | false =>
    have h1 : ¬ (((m % 2 : Nat) : Int) = 1) := fun c => Bool.false_ne_true (i1.2 c)
    cases b2 with
    | true =>
      have h2 : okP (m + 1) q = true := i2.1 rfl
      exact fin _ (RF_Near_t3_r3) rfl (show Ending.returned (.float .f64 (mkW true (m + 1) q)) = .returned (.float .f64 (Bt.wf true (pk (m + 1) q))) from by rw [mkW_ok h2])
    | false =>
      have h2 : ¬ (okP (m + 1) q = true) := fun c => Bool.false_ne_true (i2.2 c)
      exact fin _ (RF_Near_t3_r4) rfl (show Ending.returned (.float .f64 18442240474082181120) = .returned (.float .f64 (Bt.wf true (pk (m + 1) q))) from by rw [inf_t h2])
@[reducible] def RF_Below_f0_f : FuncId := 140
@[reducible] def RF_Below_f0_a : List AV := [.lit (.bool false), .sym 0, .sym 1, .lit (.int .u8 0), .lit (.func (.func 91) #[] #[])]
@[reducible] noncomputable def RF_Below_f0_k : Know := ⟨[],
  [(178, [.lit (.bool false), .sym 0, .sym 1], .tup [.sym 2, .lit (.bool true)])]⟩
theorem RF_Below_f0_r1 : @comes RF_Below_f0_k Tryz.prog glT 3000 RF_Below_f0_f RF_Below_f0_a = some (.sym 2) := by kernel_rfl
set_option maxRecDepth 100000 in
set_option maxHeartbeats 4000000 in
theorem RF_Below_f0 (m : Nat) (q : Int) (w : World) (hG : Globs glT w) (hm : m < 9007199254740992) (hq1 : -1074 ≤ q) (hq2 : q ≤ 971) (hmn : 4503599627370496 ≤ m ∨ q = -1074) : Calls Tryz.prog 140 #[.bool false, .int .u64 (((m : Nat) : Int)), .int .i64 q, .int .u8 0, .func (.func 91) #[] #[]] w fun e w' => e = .returned (.float .f64 (Bt.wf false (pk (m) q))) ∧ Below w.heap.size w w' := by
  have h1 : okP m q = true := okP_lt hm
  have i1 : true = true ↔ (okP m q = true) := ⟨fun _ => h1, fun _ => rfl⟩
  letI : Env := mkEnv glT [.int .u64 (((m : Nat) : Int)), .int .i64 q, .float .f64 (mkW false m q)] rfl
  have hops : OpsT Tryz.prog (@Know.ops RF_Below_f0_k) := trivial
  have hcalls : CallsT Tryz.prog (@Know.calls RF_Below_f0_k) := ⟨callt rfl rfl fun w hG => bMake_i false m q w (by omega) hq1 hq2 hmn i1 hG,
    trivial⟩
  have fin : ∀ v, @comes RF_Below_f0_k Tryz.prog glT 3000 RF_Below_f0_f RF_Below_f0_a = some v → ground v = true → Ending.returned (gval v) = .returned (.float .f64 (Bt.wf false (pk (m) q))) → Calls Tryz.prog 140 #[.bool false, .int .u64 (((m : Nat) : Int)), .int .i64 q, .int .u8 0, .func (.func 91) #[] #[]] w fun e w' => e = .returned (.float .f64 (Bt.wf false (pk (m) q))) ∧ Below w.heap.size w w' := fun v h1 h2 h3 => (@sym_ok _ RF_Below_f0_k _ (@KnowOk.of _ RF_Below_f0_k _ hops hcalls) (by kernel_rfl) _ _ _ _ h1 rfl h2 _ hG).mono fun e w' h => ⟨h.1.trans h3, h.2⟩
  clear hops hcalls
  exact fin _ (RF_Below_f0_r1) rfl (show Ending.returned (.float .f64 (mkW false m q)) = .returned (.float .f64 (Bt.wf false (pk (m) q))) from by rw [mkW_ok h1])
@[reducible] def RF_Below_f1_f : FuncId := 140
@[reducible] def RF_Below_f1_a : List AV := [.lit (.bool false), .sym 0, .sym 1, .lit (.int .u8 1), .lit (.func (.func 91) #[] #[])]
@[reducible] noncomputable def RF_Below_f1_k (b2 : Bool) : Know := ⟨[([0, 5, 66], [.sym 0, .lit (.int .u64 1)], .sym 3),
  ([0, 11, 66], [.sym 3, .lit (.int .u64 1)], .lit (.bool b2))],
  [(178, [.lit (.bool false), .sym 0, .sym 1], .tup [.sym 2, .lit (.bool true)])]⟩
theorem RF_Below_f1_r1 : @comes (RF_Below_f1_k true) Tryz.prog glT 3000 RF_Below_f1_f RF_Below_f1_a = some (.sym 2) := by kernel_rfl
theorem RF_Below_f1_r2 : @comes (RF_Below_f1_k false) Tryz.prog glT 3000 RF_Below_f1_f RF_Below_f1_a = some (.sym 2) := by kernel_rfl
set_option maxRecDepth 100000 in
set_option maxHeartbeats 4000000 in
theorem RF_Below_f1 (m : Nat) (q : Int) (w : World) (hG : Globs glT w) (hm : m < 9007199254740992) (hq1 : -1074 ≤ q) (hq2 : q ≤ 971) (hmn : 4503599627370496 ≤ m ∨ q = -1074) : Calls Tryz.prog 140 #[.bool false, .int .u64 (((m : Nat) : Int)), .int .i64 q, .int .u8 1, .func (.func 91) #[] #[]] w fun e w' => e = .returned (.float .f64 (Bt.wf false (pk (m) q))) ∧ Below w.heap.size w w' := by
  have h1 : okP m q = true := okP_lt hm
  have i1 : true = true ↔ (okP m q = true) := ⟨fun _ => h1, fun _ => rfl⟩
  obtain ⟨b2, i2⟩ := bex (((m % 2 : Nat) : Int) = 1)
  letI : Env := mkEnv glT [.int .u64 (((m : Nat) : Int)), .int .i64 q, .float .f64 (mkW false m q), .int .u64 (((m % 2 : Nat) : Int))] rfl
  have hops : OpsT Tryz.prog (@Know.ops (RF_Below_f1_k b2)) := ⟨opt_odd rfl rfl rfl rfl (by omega),
    opt_eql_i rfl rfl i2,
    trivial⟩
  have hcalls : CallsT Tryz.prog (@Know.calls (RF_Below_f1_k b2)) := ⟨callt rfl rfl fun w hG => bMake_i false m q w (by omega) hq1 hq2 hmn i1 hG,
    trivial⟩
  have fin : ∀ v, @comes (RF_Below_f1_k b2) Tryz.prog glT 3000 RF_Below_f1_f RF_Below_f1_a = some v → ground v = true → Ending.returned (gval v) = .returned (.float .f64 (Bt.wf false (pk (m) q))) → Calls Tryz.prog 140 #[.bool false, .int .u64 (((m : Nat) : Int)), .int .i64 q, .int .u8 1, .func (.func 91) #[] #[]] w fun e w' => e = .returned (.float .f64 (Bt.wf false (pk (m) q))) ∧ Below w.heap.size w w' := fun v h1 h2 h3 => (@sym_ok _ (RF_Below_f1_k b2) _ (@KnowOk.of _ (RF_Below_f1_k b2) _ hops hcalls) (by kernel_rfl) _ _ _ _ h1 rfl h2 _ hG).mono fun e w' h => ⟨h.1.trans h3, h.2⟩
  clear hops hcalls
  cases b2 with
  | true =>
    have h2 : ((m % 2 : Nat) : Int) = 1 := i2.1 rfl
    exact fin _ (RF_Below_f1_r1) rfl (show Ending.returned (.float .f64 (mkW false m q)) = .returned (.float .f64 (Bt.wf false (pk (m) q))) from by rw [mkW_ok h1])
  | false =>
    have h2 : ¬ (((m % 2 : Nat) : Int) = 1) := fun c => Bool.false_ne_true (i2.2 c)
    exact fin _ (RF_Below_f1_r2) rfl (show Ending.returned (.float .f64 (mkW false m q)) = .returned (.float .f64 (Bt.wf false (pk (m) q))) from by rw [mkW_ok h1])
@[reducible] def RF_Below_f2_f : FuncId := 140
@[reducible] def RF_Below_f2_a : List AV := [.lit (.bool false), .sym 0, .sym 1, .lit (.int .u8 2), .lit (.func (.func 91) #[] #[])]
@[reducible] noncomputable def RF_Below_f2_k (b2 : Bool) : Know := ⟨[([0, 5, 66], [.sym 0, .lit (.int .u64 1)], .sym 3),
  ([0, 11, 66], [.sym 3, .lit (.int .u64 1)], .lit (.bool b2))],
  [(178, [.lit (.bool false), .sym 0, .sym 1], .tup [.sym 2, .lit (.bool true)])]⟩
theorem RF_Below_f2_r1 : @comes (RF_Below_f2_k true) Tryz.prog glT 3000 RF_Below_f2_f RF_Below_f2_a = some (.sym 2) := by kernel_rfl
theorem RF_Below_f2_r2 : @comes (RF_Below_f2_k false) Tryz.prog glT 3000 RF_Below_f2_f RF_Below_f2_a = some (.sym 2) := by kernel_rfl
set_option maxRecDepth 100000 in
set_option maxHeartbeats 4000000 in
theorem RF_Below_f2 (m : Nat) (q : Int) (w : World) (hG : Globs glT w) (hm : m < 9007199254740992) (hq1 : -1074 ≤ q) (hq2 : q ≤ 971) (hmn : 4503599627370496 ≤ m ∨ q = -1074) : Calls Tryz.prog 140 #[.bool false, .int .u64 (((m : Nat) : Int)), .int .i64 q, .int .u8 2, .func (.func 91) #[] #[]] w fun e w' => e = .returned (.float .f64 (Bt.wf false (pk (m) q))) ∧ Below w.heap.size w w' := by
  have h1 : okP m q = true := okP_lt hm
  have i1 : true = true ↔ (okP m q = true) := ⟨fun _ => h1, fun _ => rfl⟩
  obtain ⟨b2, i2⟩ := bex (((m % 2 : Nat) : Int) = 1)
  letI : Env := mkEnv glT [.int .u64 (((m : Nat) : Int)), .int .i64 q, .float .f64 (mkW false m q), .int .u64 (((m % 2 : Nat) : Int))] rfl
  have hops : OpsT Tryz.prog (@Know.ops (RF_Below_f2_k b2)) := ⟨opt_odd rfl rfl rfl rfl (by omega),
    opt_eql_i rfl rfl i2,
    trivial⟩
  have hcalls : CallsT Tryz.prog (@Know.calls (RF_Below_f2_k b2)) := ⟨callt rfl rfl fun w hG => bMake_i false m q w (by omega) hq1 hq2 hmn i1 hG,
    trivial⟩
  have fin : ∀ v, @comes (RF_Below_f2_k b2) Tryz.prog glT 3000 RF_Below_f2_f RF_Below_f2_a = some v → ground v = true → Ending.returned (gval v) = .returned (.float .f64 (Bt.wf false (pk (m) q))) → Calls Tryz.prog 140 #[.bool false, .int .u64 (((m : Nat) : Int)), .int .i64 q, .int .u8 2, .func (.func 91) #[] #[]] w fun e w' => e = .returned (.float .f64 (Bt.wf false (pk (m) q))) ∧ Below w.heap.size w w' := fun v h1 h2 h3 => (@sym_ok _ (RF_Below_f2_k b2) _ (@KnowOk.of _ (RF_Below_f2_k b2) _ hops hcalls) (by kernel_rfl) _ _ _ _ h1 rfl h2 _ hG).mono fun e w' h => ⟨h.1.trans h3, h.2⟩
  clear hops hcalls
  cases b2 with
  | true =>
    have h2 : ((m % 2 : Nat) : Int) = 1 := i2.1 rfl
    exact fin _ (RF_Below_f2_r1) rfl (show Ending.returned (.float .f64 (mkW false m q)) = .returned (.float .f64 (Bt.wf false (pk (m) q))) from by rw [mkW_ok h1])
  | false =>
    have h2 : ¬ (((m % 2 : Nat) : Int) = 1) := fun c => Bool.false_ne_true (i2.2 c)
    exact fin _ (RF_Below_f2_r2) rfl (show Ending.returned (.float .f64 (mkW false m q)) = .returned (.float .f64 (Bt.wf false (pk (m) q))) from by rw [mkW_ok h1])
@[reducible] def RF_Below_f3_f : FuncId := 140
@[reducible] def RF_Below_f3_a : List AV := [.lit (.bool false), .sym 0, .sym 1, .lit (.int .u8 3), .lit (.func (.func 91) #[] #[])]
@[reducible] noncomputable def RF_Below_f3_k (b2 : Bool) : Know := ⟨[([0, 5, 66], [.sym 0, .lit (.int .u64 1)], .sym 3),
  ([0, 11, 66], [.sym 3, .lit (.int .u64 1)], .lit (.bool b2))],
  [(178, [.lit (.bool false), .sym 0, .sym 1], .tup [.sym 2, .lit (.bool true)])]⟩
theorem RF_Below_f3_r1 : @comes (RF_Below_f3_k true) Tryz.prog glT 3000 RF_Below_f3_f RF_Below_f3_a = some (.sym 2) := by kernel_rfl
theorem RF_Below_f3_r2 : @comes (RF_Below_f3_k false) Tryz.prog glT 3000 RF_Below_f3_f RF_Below_f3_a = some (.sym 2) := by kernel_rfl
set_option maxRecDepth 100000 in
set_option maxHeartbeats 4000000 in
theorem RF_Below_f3 (m : Nat) (q : Int) (w : World) (hG : Globs glT w) (hm : m < 9007199254740992) (hq1 : -1074 ≤ q) (hq2 : q ≤ 971) (hmn : 4503599627370496 ≤ m ∨ q = -1074) : Calls Tryz.prog 140 #[.bool false, .int .u64 (((m : Nat) : Int)), .int .i64 q, .int .u8 3, .func (.func 91) #[] #[]] w fun e w' => e = .returned (.float .f64 (Bt.wf false (pk (m) q))) ∧ Below w.heap.size w w' := by
  have h1 : okP m q = true := okP_lt hm
  have i1 : true = true ↔ (okP m q = true) := ⟨fun _ => h1, fun _ => rfl⟩
  obtain ⟨b2, i2⟩ := bex (((m % 2 : Nat) : Int) = 1)
  letI : Env := mkEnv glT [.int .u64 (((m : Nat) : Int)), .int .i64 q, .float .f64 (mkW false m q), .int .u64 (((m % 2 : Nat) : Int))] rfl
  have hops : OpsT Tryz.prog (@Know.ops (RF_Below_f3_k b2)) := ⟨opt_odd rfl rfl rfl rfl (by omega),
    opt_eql_i rfl rfl i2,
    trivial⟩
  have hcalls : CallsT Tryz.prog (@Know.calls (RF_Below_f3_k b2)) := ⟨callt rfl rfl fun w hG => bMake_i false m q w (by omega) hq1 hq2 hmn i1 hG,
    trivial⟩
  have fin : ∀ v, @comes (RF_Below_f3_k b2) Tryz.prog glT 3000 RF_Below_f3_f RF_Below_f3_a = some v → ground v = true → Ending.returned (gval v) = .returned (.float .f64 (Bt.wf false (pk (m) q))) → Calls Tryz.prog 140 #[.bool false, .int .u64 (((m : Nat) : Int)), .int .i64 q, .int .u8 3, .func (.func 91) #[] #[]] w fun e w' => e = .returned (.float .f64 (Bt.wf false (pk (m) q))) ∧ Below w.heap.size w w' := fun v h1 h2 h3 => (@sym_ok _ (RF_Below_f3_k b2) _ (@KnowOk.of _ (RF_Below_f3_k b2) _ hops hcalls) (by kernel_rfl) _ _ _ _ h1 rfl h2 _ hG).mono fun e w' h => ⟨h.1.trans h3, h.2⟩
  clear hops hcalls
  cases b2 with
  | true =>
    have h2 : ((m % 2 : Nat) : Int) = 1 := i2.1 rfl
    exact fin _ (RF_Below_f3_r1) rfl (show Ending.returned (.float .f64 (mkW false m q)) = .returned (.float .f64 (Bt.wf false (pk (m) q))) from by rw [mkW_ok h1])
  | false =>
    have h2 : ¬ (((m % 2 : Nat) : Int) = 1) := fun c => Bool.false_ne_true (i2.2 c)
    exact fin _ (RF_Below_f3_r2) rfl (show Ending.returned (.float .f64 (mkW false m q)) = .returned (.float .f64 (Bt.wf false (pk (m) q))) from by rw [mkW_ok h1])
@[reducible] def RF_Below_t0_f : FuncId := 140
@[reducible] def RF_Below_t0_a : List AV := [.lit (.bool true), .sym 0, .sym 1, .lit (.int .u8 0), .lit (.func (.func 91) #[] #[])]
@[reducible] noncomputable def RF_Below_t0_k : Know := ⟨[],
  [(178, [.lit (.bool true), .sym 0, .sym 1], .tup [.sym 2, .lit (.bool true)])]⟩
theorem RF_Below_t0_r1 : @comes RF_Below_t0_k Tryz.prog glT 3000 RF_Below_t0_f RF_Below_t0_a = some (.sym 2) := by kernel_rfl
set_option maxRecDepth 100000 in
set_option maxHeartbeats 4000000 in
theorem RF_Below_t0 (m : Nat) (q : Int) (w : World) (hG : Globs glT w) (hm : m < 9007199254740992) (hq1 : -1074 ≤ q) (hq2 : q ≤ 971) (hmn : 4503599627370496 ≤ m ∨ q = -1074) : Calls Tryz.prog 140 #[.bool true, .int .u64 (((m : Nat) : Int)), .int .i64 q, .int .u8 0, .func (.func 91) #[] #[]] w fun e w' => e = .returned (.float .f64 (Bt.wf true (pk (m) q))) ∧ Below w.heap.size w w' := by
  have h1 : okP m q = true := okP_lt hm
  have i1 : true = true ↔ (okP m q = true) := ⟨fun _ => h1, fun _ => rfl⟩
  letI : Env := mkEnv glT [.int .u64 (((m : Nat) : Int)), .int .i64 q, .float .f64 (mkW true m q)] rfl
  have hops : OpsT Tryz.prog (@Know.ops RF_Below_t0_k) := trivial
  have hcalls : CallsT Tryz.prog (@Know.calls RF_Below_t0_k) := ⟨callt rfl rfl fun w hG => bMake_i true m q w (by omega) hq1 hq2 hmn i1 hG,
    trivial⟩
  have fin : ∀ v, @comes RF_Below_t0_k Tryz.prog glT 3000 RF_Below_t0_f RF_Below_t0_a = some v → ground v = true → Ending.returned (gval v) = .returned (.float .f64 (Bt.wf true (pk (m) q))) → Calls Tryz.prog 140 #[.bool true, .int .u64 (((m : Nat) : Int)), .int .i64 q, .int .u8 0, .func (.func 91) #[] #[]] w fun e w' => e = .returned (.float .f64 (Bt.wf true (pk (m) q))) ∧ Below w.heap.size w w' := fun v h1 h2 h3 => (@sym_ok _ RF_Below_t0_k _ (@KnowOk.of _ RF_Below_t0_k _ hops hcalls) (by kernel_rfl) _ _ _ _ h1 rfl h2 _ hG).mono fun e w' h => ⟨h.1.trans h3, h.2⟩
  clear hops hcalls
  exact fin _ (RF_Below_t0_r1) rfl (show Ending.returned (.float .f64 (mkW true m q)) = .returned (.float .f64 (Bt.wf true (pk (m) q))) from by rw [mkW_ok h1])
@[reducible] def RF_Below_t1_f : FuncId := 140
@[reducible] def RF_Below_t1_a : List AV := [.lit (.bool true), .sym 0, .sym 1, .lit (.int .u8 1), .lit (.func (.func 91) #[] #[])]
@[reducible] noncomputable def RF_Below_t1_k (b1 b2 : Bool) : Know := ⟨[([0, 5, 66], [.sym 0, .lit (.int .u64 1)], .sym 2),
  ([0, 11, 66], [.sym 2, .lit (.int .u64 1)], .lit (.bool b1)),
  ([0, 0, 66], [.sym 0, .lit (.int .u64 1)], .sym 3)],
  [(178, [.lit (.bool true), .sym 3, .sym 1], .tup [.sym 4, .lit (.bool b2)])]⟩
theorem RF_Below_t1_r1 : @comes (RF_Below_t1_k true true) Tryz.prog glT 3000 RF_Below_t1_f RF_Below_t1_a = some (.sym 4) := by kernel_rfl
theorem RF_Below_t1_r2 : @comes (RF_Below_t1_k true false) Tryz.prog glT 3000 RF_Below_t1_f RF_Below_t1_a = some (.lit (.float .f64 18442240474082181120)) := by kernel_rfl
theorem RF_Below_t1_r3 : @comes (RF_Below_t1_k false true) Tryz.prog glT 3000 RF_Below_t1_f RF_Below_t1_a = some (.sym 4) := by kernel_rfl
theorem RF_Below_t1_r4 : @comes (RF_Below_t1_k false false) Tryz.prog glT 3000 RF_Below_t1_f RF_Below_t1_a = some (.lit (.float .f64 18442240474082181120)) := by kernel_rfl
set_option maxRecDepth 100000 in
set_option maxHeartbeats 4000000 in
theorem RF_Below_t1 (m : Nat) (q : Int) (w : World) (hG : Globs glT w) (hm : m < 9007199254740992) (hq1 : -1074 ≤ q) (hq2 : q ≤ 971) (hmn : 4503599627370496 ≤ m ∨ q = -1074) : Calls Tryz.prog 140 #[.bool true, .int .u64 (((m : Nat) : Int)), .int .i64 q, .int .u8 1, .func (.func 91) #[] #[]] w fun e w' => e = .returned (.float .f64 (Bt.wf true (pk (m + 1) q))) ∧ Below w.heap.size w w' := by
  obtain ⟨b1, i1⟩ := bex (((m % 2 : Nat) : Int) = 1)
  obtain ⟨b2, i2⟩ := bex (okP (m + 1) q = true)
  letI : Env := mkEnv glT [.int .u64 (((m : Nat) : Int)), .int .i64 q, .int .u64 (((m % 2 : Nat) : Int)), .int .u64 (((m + 1 : Nat) : Int)), .float .f64 (mkW true (m + 1) q)] rfl
  have hops : OpsT Tryz.prog (@Know.ops (RF_Below_t1_k b1 b2)) := ⟨opt_odd rfl rfl rfl rfl (by omega),
    opt_eql_i rfl rfl i1,
    opt_add64 (y := 1) rfl rfl rfl rfl rfl (by omega),
    trivial⟩
  have hcalls : CallsT Tryz.prog (@Know.calls (RF_Below_t1_k b1 b2)) := ⟨callt rfl rfl fun w hG => bMake_i true (m + 1) q w (by omega) hq1 hq2 (hmn.imp (fun h => Nat.le_succ_of_le h) id) i2 hG,
    trivial⟩
  have fin : ∀ v, @comes (RF_Below_t1_k b1 b2) Tryz.prog glT 3000 RF_Below_t1_f RF_Below_t1_a = some v → ground v = true → Ending.returned (gval v) = .returned (.float .f64 (Bt.wf true (pk (m + 1) q))) → Calls Tryz.prog 140 #[.bool true, .int .u64 (((m : Nat) : Int)), .int .i64 q, .int .u8 1, .func (.func 91) #[] #[]] w fun e w' => e = .returned (.float .f64 (Bt.wf true (pk (m + 1) q))) ∧ Below w.heap.size w w' := fun v h1 h2 h3 => (@sym_ok _ (RF_Below_t1_k b1 b2) _ (@KnowOk.of _ (RF_Below_t1_k b1 b2) _ hops hcalls) (by kernel_rfl) _ _ _ _ h1 rfl h2 _ hG).mono fun e w' h => ⟨h.1.trans h3, h.2⟩
  clear hops hcalls
  cases b1 with
  | true =>
    have h1 : ((m % 2 : Nat) : Int) = 1 := i1.1 rfl
    cases b2 with
    | true =>
      have h2 : okP (m + 1) q = true := i2.1 rfl
      exact fin _ (RF_Below_t1_r1) rfl (show Ending.returned (.float .f64 (mkW true (m + 1) q)) = .returned (.float .f64 (Bt.wf true (pk (m + 1) q))) from by rw [mkW_ok h2])
    | false =>
      have h2 : ¬ (okP (m + 1) q = true) := fun c => Bool.false_ne_true (i2.2 c)
      exact fin _ (RF_Below_t1_r2) rfl (show Ending.returned (.float .f64 18442240474082181120) = .returned (.float .f64 (Bt.wf true (pk (m + 1) q))) from by rw [inf_t h2])
  | false =>
    have h1 : ¬ (((m % 2 : Nat) : Int) = 1) := fun c => Bool.false_ne_true (i1.2 c)
    cases b2 with
    | true =>
      have h2 : okP (m + 1) q = true := i2.1 rfl
      exact fin _ (RF_Below_t1_r3) rfl (show Ending.returned (.float .f64 (mkW true (m + 1) q)) = .returned (.float .f64 (Bt.wf true (pk (m + 1) q))) from by rw [mkW_ok h2])
    | false =>
      have h2 : ¬ (okP (m + 1) q = true) := fun c => Bool.false_ne_true (i2.2 c)
      exact fin _ (RF_Below_t1_r4) rfl (show Ending.returned (.float .f64 18442240474082181120) = .returned (.float .f64 (Bt.wf true (pk (m + 1) q))) from by rw [inf_t h2])
@[reducible] def RF_Below_t2_f : FuncId := 140
@[reducible] def RF_Below_t2_a : List AV := [.lit (.bool true), .sym 0, .sym 1, .lit (.int .u8 2), .lit (.func (.func 91) #[] #[])]
@[reducible] noncomputable def RF_Below_t2_k (b1 b2 : Bool) : Know := ⟨[([0, 5, 66], [.sym 0, .lit (.int .u64 1)], .sym 2),
  ([0, 11, 66], [.sym 2, .lit (.int .u64 1)], .lit (.bool b1)),
  ([0, 0, 66], [.sym 0, .lit (.int .u64 1)], .sym 3)],
  [(178, [.lit (.bool true), .sym 3, .sym 1], .tup [.sym 4, .lit (.bool b2)])]⟩
theorem RF_Below_t2_r1 : @comes (RF_Below_t2_k true true) Tryz.prog glT 3000 RF_Below_t2_f RF_Below_t2_a = some (.sym 4) := by kernel_rfl
theorem RF_Below_t2_r2 : @comes (RF_Below_t2_k true false) Tryz.prog glT 3000 RF_Below_t2_f RF_Below_t2_a = some (.lit (.float .f64 18442240474082181120)) := by kernel_rfl
theorem RF_Below_t2_r3 : @comes (RF_Below_t2_k false true) Tryz.prog glT 3000 RF_Below_t2_f RF_Below_t2_a = some (.sym 4) := by kernel_rfl
theorem RF_Below_t2_r4 : @comes (RF_Below_t2_k false false) Tryz.prog glT 3000 RF_Below_t2_f RF_Below_t2_a = some (.lit (.float .f64 18442240474082181120)) := by kernel_rfl
set_option maxRecDepth 100000 in
set_option maxHeartbeats 4000000 in
theorem RF_Below_t2 (m : Nat) (q : Int) (w : World) (hG : Globs glT w) (hm : m < 9007199254740992) (hq1 : -1074 ≤ q) (hq2 : q ≤ 971) (hmn : 4503599627370496 ≤ m ∨ q = -1074) : Calls Tryz.prog 140 #[.bool true, .int .u64 (((m : Nat) : Int)), .int .i64 q, .int .u8 2, .func (.func 91) #[] #[]] w fun e w' => e = .returned (.float .f64 (Bt.wf true (pk (m + 1) q))) ∧ Below w.heap.size w w' := by
  obtain ⟨b1, i1⟩ := bex (((m % 2 : Nat) : Int) = 1)
  obtain ⟨b2, i2⟩ := bex (okP (m + 1) q = true)
  letI : Env := mkEnv glT [.int .u64 (((m : Nat) : Int)), .int .i64 q, .int .u64 (((m % 2 : Nat) : Int)), .int .u64 (((m + 1 : Nat) : Int)), .float .f64 (mkW true (m + 1) q)] rfl
  have hops : OpsT Tryz.prog (@Know.ops (RF_Below_t2_k b1 b2)) := ⟨opt_odd rfl rfl rfl rfl (by omega),
    opt_eql_i rfl rfl i1,
    opt_add64 (y := 1) rfl rfl rfl rfl rfl (by omega),
    trivial⟩
  have hcalls : CallsT Tryz.prog (@Know.calls (RF_Below_t2_k b1 b2)) := ⟨callt rfl rfl fun w hG => bMake_i true (m + 1) q w (by omega) hq1 hq2 (hmn.imp (fun h => Nat.le_succ_of_le h) id) i2 hG,
    trivial⟩
  have fin : ∀ v, @comes (RF_Below_t2_k b1 b2) Tryz.prog glT 3000 RF_Below_t2_f RF_Below_t2_a = some v → ground v = true → Ending.returned (gval v) = .returned (.float .f64 (Bt.wf true (pk (m + 1) q))) → Calls Tryz.prog 140 #[.bool true, .int .u64 (((m : Nat) : Int)), .int .i64 q, .int .u8 2, .func (.func 91) #[] #[]] w fun e w' => e = .returned (.float .f64 (Bt.wf true (pk (m + 1) q))) ∧ Below w.heap.size w w' := fun v h1 h2 h3 => (@sym_ok _ (RF_Below_t2_k b1 b2) _ (@KnowOk.of _ (RF_Below_t2_k b1 b2) _ hops hcalls) (by kernel_rfl) _ _ _ _ h1 rfl h2 _ hG).mono fun e w' h => ⟨h.1.trans h3, h.2⟩
  clear hops hcalls
  cases b1 with
  | true =>
    have h1 : ((m % 2 : Nat) : Int) = 1 := i1.1 rfl
    cases b2 with
    | true =>
      have h2 : okP (m + 1) q = true := i2.1 rfl
      exact fin _ (RF_Below_t2_r1) rfl (show Ending.returned (.float .f64 (mkW true (m + 1) q)) = .returned (.float .f64 (Bt.wf true (pk (m + 1) q))) from by rw [mkW_ok h2])
    | false =>
      have h2 : ¬ (okP (m + 1) q = true) := fun c => Bool.false_ne_true (i2.2 c)
      exact fin _ (RF_Below_t2_r2) rfl (show Ending.returned (.float .f64 18442240474082181120) = .returned (.float .f64 (Bt.wf true (pk (m + 1) q))) from by rw [inf_t h2])
  | false =>
    have h1 : ¬ (((m % 2 : Nat) : Int) = 1) := fun c => Bool.false_ne_true (i1.2 c)
    cases b2 with
    | true =>
      have h2 : okP (m + 1) q = true := i2.1 rfl
      exact fin _ (RF_Below_t2_r3) rfl (show Ending.returned (.float .f64 (mkW true (m + 1) q)) = .returned (.float .f64 (Bt.wf true (pk (m + 1) q))) from by rw [mkW_ok h2])
    | false =>
      have h2 : ¬ (okP (m + 1) q = true) := fun c => Bool.false_ne_true (i2.2 c)
      exact fin _ (RF_Below_t2_r4) rfl (show Ending.returned (.float .f64 18442240474082181120) = .returned (.float .f64 (Bt.wf true (pk (m + 1) q))) from by rw [inf_t h2])
@[reducible] def RF_Below_t3_f : FuncId := 140
@[reducible] def RF_Below_t3_a : List AV := [.lit (.bool true), .sym 0, .sym 1, .lit (.int .u8 3), .lit (.func (.func 91) #[] #[])]
@[reducible] noncomputable def RF_Below_t3_k (b1 b2 : Bool) : Know := ⟨[([0, 5, 66], [.sym 0, .lit (.int .u64 1)], .sym 2),
  ([0, 11, 66], [.sym 2, .lit (.int .u64 1)], .lit (.bool b1)),
  ([0, 0, 66], [.sym 0, .lit (.int .u64 1)], .sym 3)],
  [(178, [.lit (.bool true), .sym 3, .sym 1], .tup [.sym 4, .lit (.bool b2)])]⟩
theorem RF_Below_t3_r1 : @comes (RF_Below_t3_k true true) Tryz.prog glT 3000 RF_Below_t3_f RF_Below_t3_a = some (.sym 4) := by kernel_rfl
theorem RF_Below_t3_r2 : @comes (RF_Below_t3_k true false) Tryz.prog glT 3000 RF_Below_t3_f RF_Below_t3_a = some (.lit (.float .f64 18442240474082181120)) := by kernel_rfl
theorem RF_Below_t3_r3 : @comes (RF_Below_t3_k false true) Tryz.prog glT 3000 RF_Below_t3_f RF_Below_t3_a = some (.sym 4) := by kernel_rfl
theorem RF_Below_t3_r4 : @comes (RF_Below_t3_k false false) Tryz.prog glT 3000 RF_Below_t3_f RF_Below_t3_a = some (.lit (.float .f64 18442240474082181120)) := by kernel_rfl
set_option maxRecDepth 100000 in
set_option maxHeartbeats 4000000 in
theorem RF_Below_t3 (m : Nat) (q : Int) (w : World) (hG : Globs glT w) (hm : m < 9007199254740992) (hq1 : -1074 ≤ q) (hq2 : q ≤ 971) (hmn : 4503599627370496 ≤ m ∨ q = -1074) : Calls Tryz.prog 140 #[.bool true, .int .u64 (((m : Nat) : Int)), .int .i64 q, .int .u8 3, .func (.func 91) #[] #[]] w fun e w' => e = .returned (.float .f64 (Bt.wf true (pk (m + 1) q))) ∧ Below w.heap.size w w' := by
  obtain ⟨b1, i1⟩ := bex (((m % 2 : Nat) : Int) = 1)
  obtain ⟨b2, i2⟩ := bex (okP (m + 1) q = true)
  letI : Env := mkEnv glT [.int .u64 (((m : Nat) : Int)), .int .i64 q, .int .u64 (((m % 2 : Nat) : Int)), .int .u64 (((m + 1 : Nat) : Int)), .float .f64 (mkW true (m + 1) q)] rfl
  have hops : OpsT Tryz.prog (@Know.ops (RF_Below_t3_k b1 b2)) := ⟨opt_odd rfl rfl rfl rfl (by omega),
    opt_eql_i rfl rfl i1,
    opt_add64 (y := 1) rfl rfl rfl rfl rfl (by omega),
    trivial⟩
  have hcalls : CallsT Tryz.prog (@Know.calls (RF_Below_t3_k b1 b2)) := ⟨callt rfl rfl fun w hG => bMake_i true (m + 1) q w (by omega) hq1 hq2 (hmn.imp (fun h => Nat.le_succ_of_le h) id) i2 hG,
    trivial⟩
  have fin : ∀ v, @comes (RF_Below_t3_k b1 b2) Tryz.prog glT 3000 RF_Below_t3_f RF_Below_t3_a = some v → ground v = true → Ending.returned (gval v) = .returned (.float .f64 (Bt.wf true (pk (m + 1) q))) → Calls Tryz.prog 140 #[.bool true, .int .u64 (((m : Nat) : Int)), .int .i64 q, .int .u8 3, .func (.func 91) #[] #[]] w fun e w' => e = .returned (.float .f64 (Bt.wf true (pk (m + 1) q))) ∧ Below w.heap.size w w' := fun v h1 h2 h3 => (@sym_ok _ (RF_Below_t3_k b1 b2) _ (@KnowOk.of _ (RF_Below_t3_k b1 b2) _ hops hcalls) (by kernel_rfl) _ _ _ _ h1 rfl h2 _ hG).mono fun e w' h => ⟨h.1.trans h3, h.2⟩
  clear hops hcalls
  cases b1 with
  | true =>
    have h1 : ((m % 2 : Nat) : Int) = 1 := i1.1 rfl
    cases b2 with
    | true =>
      have h2 : okP (m + 1) q = true := i2.1 rfl
      exact fin _ (RF_Below_t3_r1) rfl (show Ending.returned (.float .f64 (mkW true (m + 1) q)) = .returned (.float .f64 (Bt.wf true (pk (m + 1) q))) from by rw [mkW_ok h2])
    | false =>
      have h2 : ¬ (okP (m + 1) q = true) := fun c => Bool.false_ne_true (i2.2 c)
      exact fin _ (RF_Below_t3_r2) rfl (show Ending.returned (.float .f64 18442240474082181120) = .returned (.float .f64 (Bt.wf true (pk (m + 1) q))) from by rw [inf_t h2])
  | false =>
    have h1 : ¬ (((m % 2 : Nat) : Int) = 1) := fun c => Bool.false_ne_true (i1.2 c)
    cases b2 with
    | true =>
      have h2 : okP (m + 1) q = true := i2.1 rfl
      exact fin _ (RF_Below_t3_r3) rfl (show Ending.returned (.float .f64 (mkW true (m + 1) q)) = .returned (.float .f64 (Bt.wf true (pk (m + 1) q))) from by rw [mkW_ok h2])
    | false =>
      have h2 : ¬ (okP (m + 1) q = true) := fun c => Bool.false_ne_true (i2.2 c)
      exact fin _ (RF_Below_t3_r4) rfl (show Ending.returned (.float .f64 18442240474082181120) = .returned (.float .f64 (Bt.wf true (pk (m + 1) q))) from by rw [inf_t h2])
@[reducible] def RF_Above_f0_f : FuncId := 140
@[reducible] def RF_Above_f0_a : List AV := [.lit (.bool false), .sym 0, .sym 1, .lit (.int .u8 0), .lit (.func (.func 92) #[] #[])]
@[reducible] noncomputable def RF_Above_f0_k : Know := ⟨[],
  [(178, [.lit (.bool false), .sym 0, .sym 1], .tup [.sym 2, .lit (.bool true)])]⟩
theorem RF_Above_f0_r1 : @comes RF_Above_f0_k Tryz.prog glT 3000 RF_Above_f0_f RF_Above_f0_a = some (.sym 2) := by kernel_rfl
set_option maxRecDepth 100000 in
set_option maxHeartbeats 4000000 in
theorem RF_Above_f0 (m : Nat) (q : Int) (w : World) (hG : Globs glT w) (hm : m < 9007199254740992) (hq1 : -1074 ≤ q) (hq2 : q ≤ 971) (hmn : 4503599627370496 ≤ m ∨ q = -1074) : Calls Tryz.prog 140 #[.bool false, .int .u64 (((m : Nat) : Int)), .int .i64 q, .int .u8 0, .func (.func 92) #[] #[]] w fun e w' => e = .returned (.float .f64 (Bt.wf false (pk (m) q))) ∧ Below w.heap.size w w' := by
  have h1 : okP m q = true := okP_lt hm
  have i1 : true = true ↔ (okP m q = true) := ⟨fun _ => h1, fun _ => rfl⟩
  letI : Env := mkEnv glT [.int .u64 (((m : Nat) : Int)), .int .i64 q, .float .f64 (mkW false m q)] rfl
  have hops : OpsT Tryz.prog (@Know.ops RF_Above_f0_k) := trivial
  have hcalls : CallsT Tryz.prog (@Know.calls RF_Above_f0_k) := ⟨callt rfl rfl fun w hG => bMake_i false m q w (by omega) hq1 hq2 hmn i1 hG,
    trivial⟩
  have fin : ∀ v, @comes RF_Above_f0_k Tryz.prog glT 3000 RF_Above_f0_f RF_Above_f0_a = some v → ground v = true → Ending.returned (gval v) = .returned (.float .f64 (Bt.wf false (pk (m) q))) → Calls Tryz.prog 140 #[.bool false, .int .u64 (((m : Nat) : Int)), .int .i64 q, .int .u8 0, .func (.func 92) #[] #[]] w fun e w' => e = .returned (.float .f64 (Bt.wf false (pk (m) q))) ∧ Below w.heap.size w w' := fun v h1 h2 h3 => (@sym_ok _ RF_Above_f0_k _ (@KnowOk.of _ RF_Above_f0_k _ hops hcalls) (by kernel_rfl) _ _ _ _ h1 rfl h2 _ hG).mono fun e w' h => ⟨h.1.trans h3, h.2⟩
  clear hops hcalls
  exact fin _ (RF_Above_f0_r1) rfl (show Ending.returned (.float .f64 (mkW false m q)) = .returned (.float .f64 (Bt.wf false (pk (m) q))) from by rw [mkW_ok h1])
@[reducible] def RF_Above_f1_f : FuncId := 140
@[reducible] def RF_Above_f1_a : List AV := [.lit (.bool false), .sym 0, .sym 1, .lit (.int .u8 1), .lit (.func (.func 92) #[] #[])]
@[reducible] noncomputable def RF_Above_f1_k (b1 b2 : Bool) : Know := ⟨[([0, 5, 66], [.sym 0, .lit (.int .u64 1)], .sym 2),
  ([0, 11, 66], [.sym 2, .lit (.int .u64 1)], .lit (.bool b1)),
  ([0, 0, 66], [.sym 0, .lit (.int .u64 1)], .sym 3)],
  [(178, [.lit (.bool false), .sym 3, .sym 1], .tup [.sym 4, .lit (.bool b2)])]⟩
theorem RF_Above_f1_r1 : @comes (RF_Above_f1_k true true) Tryz.prog glT 3000 RF_Above_f1_f RF_Above_f1_a = some (.sym 4) := by kernel_rfl
theorem RF_Above_f1_r2 : @comes (RF_Above_f1_k true false) Tryz.prog glT 3000 RF_Above_f1_f RF_Above_f1_a = some (.lit (.float .f64 9218868437227405312)) := by kernel_rfl
theorem RF_Above_f1_r3 : @comes (RF_Above_f1_k false true) Tryz.prog glT 3000 RF_Above_f1_f RF_Above_f1_a = some (.sym 4) := by kernel_rfl
theorem RF_Above_f1_r4 : @comes (RF_Above_f1_k false false) Tryz.prog glT 3000 RF_Above_f1_f RF_Above_f1_a = some (.lit (.float .f64 9218868437227405312)) := by kernel_rfl
set_option maxRecDepth 100000 in
set_option maxHeartbeats 4000000 in
theorem RF_Above_f1 (m : Nat) (q : Int) (w : World) (hG : Globs glT w) (hm : m < 9007199254740992) (hq1 : -1074 ≤ q) (hq2 : q ≤ 971) (hmn : 4503599627370496 ≤ m ∨ q = -1074) : Calls Tryz.prog 140 #[.bool false, .int .u64 (((m : Nat) : Int)), .int .i64 q, .int .u8 1, .func (.func 92) #[] #[]] w fun e w' => e = .returned (.float .f64 (Bt.wf false (pk (m + 1) q))) ∧ Below w.heap.size w w' := by
  obtain ⟨b1, i1⟩ := bex (((m % 2 : Nat) : Int) = 1)
  obtain ⟨b2, i2⟩ := bex (okP (m + 1) q = true)
  letI : Env := mkEnv glT [.int .u64 (((m : Nat) : Int)), .int .i64 q, .int .u64 (((m % 2 : Nat) : Int)), .int .u64 (((m + 1 : Nat) : Int)), .float .f64 (mkW false (m + 1) q)] rfl
  have hops : OpsT Tryz.prog (@Know.ops (RF_Above_f1_k b1 b2)) := ⟨opt_odd rfl rfl rfl rfl (by omega),
    opt_eql_i rfl rfl i1,
    opt_add64 (y := 1) rfl rfl rfl rfl rfl (by omega),
    trivial⟩
  have hcalls : CallsT Tryz.prog (@Know.calls (RF_Above_f1_k b1 b2)) := ⟨callt rfl rfl fun w hG => bMake_i false (m + 1) q w (by omega) hq1 hq2 (hmn.imp (fun h => Nat.le_succ_of_le h) id) i2 hG,
    trivial⟩
  have fin : ∀ v, @comes (RF_Above_f1_k b1 b2) Tryz.prog glT 3000 RF_Above_f1_f RF_Above_f1_a = some v → ground v = true → Ending.returned (gval v) = .returned (.float .f64 (Bt.wf false (pk (m + 1) q))) → Calls Tryz.prog 140 #[.bool false, .int .u64 (((m : Nat) : Int)), .int .i64 q, .int .u8 1, .func (.func 92) #[] #[]] w fun e w' => e = .returned (.float .f64 (Bt.wf false (pk (m + 1) q))) ∧ Below w.heap.size w w' := fun v h1 h2 h3 => (@sym_ok _ (RF_Above_f1_k b1 b2) _ (@KnowOk.of _ (RF_Above_f1_k b1 b2) _ hops hcalls) (by kernel_rfl) _ _ _ _ h1 rfl h2 _ hG).mono fun e w' h => ⟨h.1.trans h3, h.2⟩
  clear hops hcalls
  cases b1 with
  | true =>
    have h1 : ((m % 2 : Nat) : Int) = 1 := i1.1 rfl
    cases b2 with
    | true =>
      have h2 : okP (m + 1) q = true := i2.1 rfl
      exact fin _ (RF_Above_f1_r1) rfl (show Ending.returned (.float .f64 (mkW false (m + 1) q)) = .returned (.float .f64 (Bt.wf false (pk (m + 1) q))) from by rw [mkW_ok h2])
    | false =>
      have h2 : ¬ (okP (m + 1) q = true) := fun c => Bool.false_ne_true (i2.2 c)
      exact fin _ (RF_Above_f1_r2) rfl (show Ending.returned (.float .f64 9218868437227405312) = .returned (.float .f64 (Bt.wf false (pk (m + 1) q))) from by rw [inf_f h2])
  | false =>
    have h1 : ¬ (((m % 2 : Nat) : Int) = 1) := fun c => Bool.false_ne_true (i1.2 c)
    cases b2 with
    | true =>
      have h2 : okP (m + 1) q = true := i2.1 rfl
      exact fin _ (RF_Above_f1_r3) rfl (show Ending.returned (.float .f64 (mkW false (m + 1) q)) = .returned (.float .f64 (Bt.wf false (pk (m + 1) q))) from by rw [mkW_ok h2])
    | false =>
      have h2 : ¬ (okP (m + 1) q = true) := fun c => Bool.false_ne_true (i2.2 c)
      exact fin _ (RF_Above_f1_r4) rfl (show Ending.returned (.float .f64 9218868437227405312) = .returned (.float .f64 (Bt.wf false (pk (m + 1) q))) from by rw [inf_f h2])
@[reducible] def RF_Above_f2_f : FuncId := 140
@[reducible] def RF_Above_f2_a : List AV := [.lit (.bool false), .sym 0, .sym 1, .lit (.int .u8 2), .lit (.func (.func 92) #[] #[])]
@[reducible] noncomputable def RF_Above_f2_k (b1 b2 : Bool) : Know := ⟨[([0, 5, 66], [.sym 0, .lit (.int .u64 1)], .sym 2),
  ([0, 11, 66], [.sym 2, .lit (.int .u64 1)], .lit (.bool b1)),
  ([0, 0, 66], [.sym 0, .lit (.int .u64 1)], .sym 3)],
  [(178, [.lit (.bool false), .sym 3, .sym 1], .tup [.sym 4, .lit (.bool b2)])]⟩
theorem RF_Above_f2_r1 : @comes (RF_Above_f2_k true true) Tryz.prog glT 3000 RF_Above_f2_f RF_Above_f2_a = some (.sym 4) := by kernel_rfl
theorem RF_Above_f2_r2 : @comes (RF_Above_f2_k true false) Tryz.prog glT 3000 RF_Above_f2_f RF_Above_f2_a = some (.lit (.float .f64 9218868437227405312)) := by kernel_rfl
theorem RF_Above_f2_r3 : @comes (RF_Above_f2_k false true) Tryz.prog glT 3000 RF_Above_f2_f RF_Above_f2_a = some (.sym 4) := by kernel_rfl
theorem RF_Above_f2_r4 : @comes (RF_Above_f2_k false false) Tryz.prog glT 3000 RF_Above_f2_f RF_Above_f2_a = some (.lit (.float .f64 9218868437227405312)) := by kernel_rfl
set_option maxRecDepth 100000 in
set_option maxHeartbeats 4000000 in
theorem RF_Above_f2 (m : Nat) (q : Int) (w : World) (hG : Globs glT w) (hm : m < 9007199254740992) (hq1 : -1074 ≤ q) (hq2 : q ≤ 971) (hmn : 4503599627370496 ≤ m ∨ q = -1074) : Calls Tryz.prog 140 #[.bool false, .int .u64 (((m : Nat) : Int)), .int .i64 q, .int .u8 2, .func (.func 92) #[] #[]] w fun e w' => e = .returned (.float .f64 (Bt.wf false (pk (m + 1) q))) ∧ Below w.heap.size w w' := by
  obtain ⟨b1, i1⟩ := bex (((m % 2 : Nat) : Int) = 1)
  obtain ⟨b2, i2⟩ := bex (okP (m + 1) q = true)
  letI : Env := mkEnv glT [.int .u64 (((m : Nat) : Int)), .int .i64 q, .int .u64 (((m % 2 : Nat) : Int)), .int .u64 (((m + 1 : Nat) : Int)), .float .f64 (mkW false (m + 1) q)] rfl
  have hops : OpsT Tryz.prog (@Know.ops (RF_Above_f2_k b1 b2)) := ⟨opt_odd rfl rfl rfl rfl (by omega),
    opt_eql_i rfl rfl i1,
    opt_add64 (y := 1) rfl rfl rfl rfl rfl (by omega),
    trivial⟩
  have hcalls : CallsT Tryz.prog (@Know.calls (RF_Above_f2_k b1 b2)) := ⟨callt rfl rfl fun w hG => bMake_i false (m + 1) q w (by omega) hq1 hq2 (hmn.imp (fun h => Nat.le_succ_of_le h) id) i2 hG,
    trivial⟩
  have fin : ∀ v, @comes (RF_Above_f2_k b1 b2) Tryz.prog glT 3000 RF_Above_f2_f RF_Above_f2_a = some v → ground v = true → Ending.returned (gval v) = .returned (.float .f64 (Bt.wf false (pk (m + 1) q))) → Calls Tryz.prog 140 #[.bool false, .int .u64 (((m : Nat) : Int)), .int .i64 q, .int .u8 2, .func (.func 92) #[] #[]] w fun e w' => e = .returned (.float .f64 (Bt.wf false (pk (m + 1) q))) ∧ Below w.heap.size w w' := fun v h1 h2 h3 => (@sym_ok _ (RF_Above_f2_k b1 b2) _ (@KnowOk.of _ (RF_Above_f2_k b1 b2) _ hops hcalls) (by kernel_rfl) _ _ _ _ h1 rfl h2 _ hG).mono fun e w' h => ⟨h.1.trans h3, h.2⟩
  clear hops hcalls
  cases b1 with
  | true =>
    have h1 : ((m % 2 : Nat) : Int) = 1 := i1.1 rfl
    cases b2 with
    | true =>
      have h2 : okP (m + 1) q = true := i2.1 rfl
      exact fin _ (RF_Above_f2_r1) rfl (show Ending.returned (.float .f64 (mkW false (m + 1) q)) = .returned (.float .f64 (Bt.wf false (pk (m + 1) q))) from by rw [mkW_ok h2])
    | false =>
      have h2 : ¬ (okP (m + 1) q = true) := fun c => Bool.false_ne_true (i2.2 c)
      exact fin _ (RF_Above_f2_r2) rfl (show Ending.returned (.float .f64 9218868437227405312) = .returned (.float .f64 (Bt.wf false (pk (m + 1) q))) from by rw [inf_f h2])
  | false =>
    have h1 : ¬ (((m % 2 : Nat) : Int) = 1) := fun c => Bool.false_ne_true (i1.2 c)
    cases b2 with
    | true =>
      have h2 : okP (m + 1) q = true := i2.1 rfl
      exact fin _ (RF_Above_f2_r3) rfl (show Ending.returned (.float .f64 (mkW false (m + 1) q)) = .returned (.float .f64 (Bt.wf false (pk (m + 1) q))) from by rw [mkW_ok h2])
    | false =>
      have h2 : ¬ (okP (m + 1) q = true) := fun c => Bool.false_ne_true (i2.2 c)
      exact fin _ (RF_Above_f2_r4) rfl (show Ending.returned (.float .f64 9218868437227405312) = .returned (.float .f64 (Bt.wf false (pk (m + 1) q))) from by rw [inf_f h2])
@[reducible] def RF_Above_f3_f : FuncId := 140
@[reducible] def RF_Above_f3_a : List AV := [.lit (.bool false), .sym 0, .sym 1, .lit (.int .u8 3), .lit (.func (.func 92) #[] #[])]
@[reducible] noncomputable def RF_Above_f3_k (b1 b2 : Bool) : Know := ⟨[([0, 5, 66], [.sym 0, .lit (.int .u64 1)], .sym 2),
  ([0, 11, 66], [.sym 2, .lit (.int .u64 1)], .lit (.bool b1)),
  ([0, 0, 66], [.sym 0, .lit (.int .u64 1)], .sym 3)],
  [(178, [.lit (.bool false), .sym 3, .sym 1], .tup [.sym 4, .lit (.bool b2)])]⟩
theorem RF_Above_f3_r1 : @comes (RF_Above_f3_k true true) Tryz.prog glT 3000 RF_Above_f3_f RF_Above_f3_a = some (.sym 4) := by kernel_rfl
theorem RF_Above_f3_r2 : @comes (RF_Above_f3_k true false) Tryz.prog glT 3000 RF_Above_f3_f RF_Above_f3_a = some (.lit (.float .f64 9218868437227405312)) := by kernel_rfl
theorem RF_Above_f3_r3 : @comes (RF_Above_f3_k false true) Tryz.prog glT 3000 RF_Above_f3_f RF_Above_f3_a = some (.sym 4) := by kernel_rfl
theorem RF_Above_f3_r4 : @comes (RF_Above_f3_k false false) Tryz.prog glT 3000 RF_Above_f3_f RF_Above_f3_a = some (.lit (.float .f64 9218868437227405312)) := by kernel_rfl
set_option maxRecDepth 100000 in
set_option maxHeartbeats 4000000 in
theorem RF_Above_f3 (m : Nat) (q : Int) (w : World) (hG : Globs glT w) (hm : m < 9007199254740992) (hq1 : -1074 ≤ q) (hq2 : q ≤ 971) (hmn : 4503599627370496 ≤ m ∨ q = -1074) : Calls Tryz.prog 140 #[.bool false, .int .u64 (((m : Nat) : Int)), .int .i64 q, .int .u8 3, .func (.func 92) #[] #[]] w fun e w' => e = .returned (.float .f64 (Bt.wf false (pk (m + 1) q))) ∧ Below w.heap.size w w' := by
  obtain ⟨b1, i1⟩ := bex (((m % 2 : Nat) : Int) = 1)
  obtain ⟨b2, i2⟩ := bex (okP (m + 1) q = true)
  letI : Env := mkEnv glT [.int .u64 (((m : Nat) : Int)), .int .i64 q, .int .u64 (((m % 2 : Nat) : Int)), .int .u64 (((m + 1 : Nat) : Int)), .float .f64 (mkW false (m + 1) q)] rfl
  have hops : OpsT Tryz.prog (@Know.ops (RF_Above_f3_k b1 b2)) := ⟨opt_odd rfl rfl rfl rfl (by omega),
    opt_eql_i rfl rfl i1,
    opt_add64 (y := 1) rfl rfl rfl rfl rfl (by omega),
    trivial⟩
  have hcalls : CallsT Tryz.prog (@Know.calls (RF_Above_f3_k b1 b2)) := ⟨callt rfl rfl fun w hG => bMake_i false (m + 1) q w (by omega) hq1 hq2 (hmn.imp (fun h => Nat.le_succ_of_le h) id) i2 hG,
    trivial⟩
  have fin : ∀ v, @comes (RF_Above_f3_k b1 b2) Tryz.prog glT 3000 RF_Above_f3_f RF_Above_f3_a = some v → ground v = true → Ending.returned (gval v) = .returned (.float .f64 (Bt.wf false (pk (m + 1) q))) → Calls Tryz.prog 140 #[.bool false, .int .u64 (((m : Nat) : Int)), .int .i64 q, .int .u8 3, .func (.func 92) #[] #[]] w fun e w' => e = .returned (.float .f64 (Bt.wf false (pk (m + 1) q))) ∧ Below w.heap.size w w' := fun v h1 h2 h3 => (@sym_ok _ (RF_Above_f3_k b1 b2) _ (@KnowOk.of _ (RF_Above_f3_k b1 b2) _ hops hcalls) (by kernel_rfl) _ _ _ _ h1 rfl h2 _ hG).mono fun e w' h => ⟨h.1.trans h3, h.2⟩
  clear hops hcalls
  cases b1 with
  | true =>
    have h1 : ((m % 2 : Nat) : Int) = 1 := i1.1 rfl
    cases b2 with
    | true =>
      have h2 : okP (m + 1) q = true := i2.1 rfl
      exact fin _ (RF_Above_f3_r1) rfl (show Ending.returned (.float .f64 (mkW false (m + 1) q)) = .returned (.float .f64 (Bt.wf false (pk (m + 1) q))) from by rw [mkW_ok h2])
    | false =>
      have h2 : ¬ (okP (m + 1) q = true) := fun c => Bool.false_ne_true (i2.2 c)
      exact fin _ (RF_Above_f3_r2) rfl (show Ending.returned (.float .f64 9218868437227405312) = .returned (.float .f64 (Bt.wf false (pk (m + 1) q))) from by rw [inf_f h2])
  | false =>
    have h1 : ¬ (((m % 2 : Nat) : Int) = 1) := fun c => Bool.false_ne_true (i1.2 c)
    cases b2 with
    | true =>
      have h2 : okP (m + 1) q = true := i2.1 rfl
      exact fin _ (RF_Above_f3_r3) rfl (show Ending.returned (.float .f64 (mkW false (m + 1) q)) = .returned (.float .f64 (Bt.wf false (pk (m + 1) q))) from by rw [mkW_ok h2])
    | false =>
      have h2 : ¬ (okP (m + 1) q = true) := fun c => Bool.false_ne_true (i2.2 c)
      exact fin _ (RF_Above_f3_r4) rfl (show Ending.returned (.float .f64 9218868437227405312) = .returned (.float .f64 (Bt.wf false (pk (m + 1) q))) from by rw [inf_f h2])
@[reducible] def RF_Above_t0_f : FuncId := 140
@[reducible] def RF_Above_t0_a : List AV := [.lit (.bool true), .sym 0, .sym 1, .lit (.int .u8 0), .lit (.func (.func 92) #[] #[])]
@[reducible] noncomputable def RF_Above_t0_k : Know := ⟨[],
  [(178, [.lit (.bool true), .sym 0, .sym 1], .tup [.sym 2, .lit (.bool true)])]⟩
theorem RF_Above_t0_r1 : @comes RF_Above_t0_k Tryz.prog glT 3000 RF_Above_t0_f RF_Above_t0_a = some (.sym 2) := by kernel_rfl
set_option maxRecDepth 100000 in
set_option maxHeartbeats 4000000 in
theorem RF_Above_t0 (m : Nat) (q : Int) (w : World) (hG : Globs glT w) (hm : m < 9007199254740992) (hq1 : -1074 ≤ q) (hq2 : q ≤ 971) (hmn : 4503599627370496 ≤ m ∨ q = -1074) : Calls Tryz.prog 140 #[.bool true, .int .u64 (((m : Nat) : Int)), .int .i64 q, .int .u8 0, .func (.func 92) #[] #[]] w fun e w' => e = .returned (.float .f64 (Bt.wf true (pk (m) q))) ∧ Below w.heap.size w w' := by
  have h1 : okP m q = true := okP_lt hm
  have i1 : true = true ↔ (okP m q = true) := ⟨fun _ => h1, fun _ => rfl⟩
  letI : Env := mkEnv glT [.int .u64 (((m : Nat) : Int)), .int .i64 q, .float .f64 (mkW true m q)] rfl
  have hops : OpsT Tryz.prog (@Know.ops RF_Above_t0_k) := trivial
  have hcalls : CallsT Tryz.prog (@Know.calls RF_Above_t0_k) := ⟨callt rfl rfl fun w hG => bMake_i true m q w (by omega) hq1 hq2 hmn i1 hG,
    trivial⟩
  have fin : ∀ v, @comes RF_Above_t0_k Tryz.prog glT 3000 RF_Above_t0_f RF_Above_t0_a = some v → ground v = true → Ending.returned (gval v) = .returned (.float .f64 (Bt.wf true (pk (m) q))) → Calls Tryz.prog 140 #[.bool true, .int .u64 (((m : Nat) : Int)), .int .i64 q, .int .u8 0, .func (.func 92) #[] #[]] w fun e w' => e = .returned (.float .f64 (Bt.wf true (pk (m) q))) ∧ Below w.heap.size w w' := fun v h1 h2 h3 => (@sym_ok _ RF_Above_t0_k _ (@KnowOk.of _ RF_Above_t0_k _ hops hcalls) (by kernel_rfl) _ _ _ _ h1 rfl h2 _ hG).mono fun e w' h => ⟨h.1.trans h3, h.2⟩
  clear hops hcalls
  exact fin _ (RF_Above_t0_r1) rfl (show Ending.returned (.float .f64 (mkW true m q)) = .returned (.float .f64 (Bt.wf true (pk (m) q))) from by rw [mkW_ok h1])
@[reducible] def RF_Above_t1_f : FuncId := 140
@[reducible] def RF_Above_t1_a : List AV := [.lit (.bool true), .sym 0, .sym 1, .lit (.int .u8 1), .lit (.func (.func 92) #[] #[])]
@[reducible] noncomputable def RF_Above_t1_k (b2 : Bool) : Know := ⟨[([0, 5, 66], [.sym 0, .lit (.int .u64 1)], .sym 3),
  ([0, 11, 66], [.sym 3, .lit (.int .u64 1)], .lit (.bool b2))],
  [(178, [.lit (.bool true), .sym 0, .sym 1], .tup [.sym 2, .lit (.bool true)])]⟩
theorem RF_Above_t1_r1 : @comes (RF_Above_t1_k true) Tryz.prog glT 3000 RF_Above_t1_f RF_Above_t1_a = some (.sym 2) := by kernel_rfl
theorem RF_Above_t1_r2 : @comes (RF_Above_t1_k false) Tryz.prog glT 3000 RF_Above_t1_f RF_Above_t1_a = some (.sym 2) := by kernel_rfl
set_option maxRecDepth 100000 in
set_option maxHeartbeats 4000000 in
theorem RF_Above_t1 (m : Nat) (q : Int) (w : World) (hG : Globs glT w) (hm : m < 9007199254740992) (hq1 : -1074 ≤ q) (hq2 : q ≤ 971) (hmn : 4503599627370496 ≤ m ∨ q = -1074) : Calls Tryz.prog 140 #[.bool true, .int .u64 (((m : Nat) : Int)), .int .i64 q, .int .u8 1, .func (.func 92) #[] #[]] w fun e w' => e = .returned (.float .f64 (Bt.wf true (pk (m) q))) ∧ Below w.heap.size w w' := by
  have h1 : okP m q = true := okP_lt hm
  have i1 : true = true ↔ (okP m q = true) := ⟨fun _ => h1, fun _ => rfl⟩
  obtain ⟨b2, i2⟩ := bex (((m % 2 : Nat) : Int) = 1)
  letI : Env := mkEnv glT [.int .u64 (((m : Nat) : Int)), .int .i64 q, .float .f64 (mkW true m q), .int .u64 (((m % 2 : Nat) : Int))] rfl
  have hops : OpsT Tryz.prog (@Know.ops (RF_Above_t1_k b2)) := ⟨opt_odd rfl rfl rfl rfl (by omega),
    opt_eql_i rfl rfl i2,
    trivial⟩
  have hcalls : CallsT Tryz.prog (@Know.calls (RF_Above_t1_k b2)) := ⟨callt rfl rfl fun w hG => bMake_i true m q w (by omega) hq1 hq2 hmn i1 hG,
    trivial⟩
  have fin : ∀ v, @comes (RF_Above_t1_k b2) Tryz.prog glT 3000 RF_Above_t1_f RF_Above_t1_a = some v → ground v = true → Ending.returned (gval v) = .returned (.float .f64 (Bt.wf true (pk (m) q))) → Calls Tryz.prog 140 #[.bool true, .int .u64 (((m : Nat) : Int)), .int .i64 q, .int .u8 1, .func (.func 92) #[] #[]] w fun e w' => e = .returned (.float .f64 (Bt.wf true (pk (m) q))) ∧ Below w.heap.size w w' := fun v h1 h2 h3 => (@sym_ok _ (RF_Above_t1_k b2) _ (@KnowOk.of _ (RF_Above_t1_k b2) _ hops hcalls) (by kernel_rfl) _ _ _ _ h1 rfl h2 _ hG).mono fun e w' h => ⟨h.1.trans h3, h.2⟩
  clear hops hcalls
  cases b2 with
  | true =>
    have h2 : ((m % 2 : Nat) : Int) = 1 := i2.1 rfl
    exact fin _ (RF_Above_t1_r1) rfl (show Ending.returned (.float .f64 (mkW true m q)) = .returned (.float .f64 (Bt.wf true (pk (m) q))) from by rw [mkW_ok h1])
  | false =>
    have h2 : ¬ (((m % 2 : Nat) : Int) = 1) := fun c => Bool.false_ne_true (i2.2 c)
    exact fin _ (RF_Above_t1_r2) rfl (show Ending.returned (.float .f64 (mkW true m q)) = .returned (.float .f64 (Bt.wf true (pk (m) q))) from by rw [mkW_ok h1])
@[reducible] def RF_Above_t2_f : FuncId := 140
@[reducible] def RF_Above_t2_a : List AV := [.lit (.bool true), .sym 0, .sym 1, .lit (.int .u8 2), .lit (.func (.func 92) #[] #[])]
@[reducible] noncomputable def RF_Above_t2_k (b2 : Bool) : Know := ⟨[([0, 5, 66], [.sym 0, .lit (.int .u64 1)], .sym 3),
  ([0, 11, 66], [.sym 3, .lit (.int .u64 1)], .lit (.bool b2))],
  [(178, [.lit (.bool true), .sym 0, .sym 1], .tup [.sym 2, .lit (.bool true)])]⟩
theorem RF_Above_t2_r1 : @comes (RF_Above_t2_k true) Tryz.prog glT 3000 RF_Above_t2_f RF_Above_t2_a = some (.sym 2) := by kernel_rfl
theorem RF_Above_t2_r2 : @comes (RF_Above_t2_k false) Tryz.prog glT 3000 RF_Above_t2_f RF_Above_t2_a = some (.sym 2) := by kernel_rfl
set_option maxRecDepth 100000 in
set_option maxHeartbeats 4000000 in
theorem RF_Above_t2 (m : Nat) (q : Int) (w : World) (hG : Globs glT w) (hm : m < 9007199254740992) (hq1 : -1074 ≤ q) (hq2 : q ≤ 971) (hmn : 4503599627370496 ≤ m ∨ q = -1074) : Calls Tryz.prog 140 #[.bool true, .int .u64 (((m : Nat) : Int)), .int .i64 q, .int .u8 2, .func (.func 92) #[] #[]] w fun e w' => e = .returned (.float .f64 (Bt.wf true (pk (m) q))) ∧ Below w.heap.size w w' := by
  have h1 : okP m q = true := okP_lt hm
  have i1 : true = true ↔ (okP m q = true) := ⟨fun _ => h1, fun _ => rfl⟩
  obtain ⟨b2, i2⟩ := bex (((m % 2 : Nat) : Int) = 1)
  letI : Env := mkEnv glT [.int .u64 (((m : Nat) : Int)), .int .i64 q, .float .f64 (mkW true m q), .int .u64 (((m % 2 : Nat) : Int))] rfl
  have hops : OpsT Tryz.prog (@Know.ops (RF_Above_t2_k b2)) := ⟨opt_odd rfl rfl rfl rfl (by omega),
    opt_eql_i rfl rfl i2,
    trivial⟩
  have hcalls : CallsT Tryz.prog (@Know.calls (RF_Above_t2_k b2)) := ⟨callt rfl rfl fun w hG => bMake_i true m q w (by omega) hq1 hq2 hmn i1 hG,
    trivial⟩
  have fin : ∀ v, @comes (RF_Above_t2_k b2) Tryz.prog glT 3000 RF_Above_t2_f RF_Above_t2_a = some v → ground v = true → Ending.returned (gval v) = .returned (.float .f64 (Bt.wf true (pk (m) q))) → Calls Tryz.prog 140 #[.bool true, .int .u64 (((m : Nat) : Int)), .int .i64 q, .int .u8 2, .func (.func 92) #[] #[]] w fun e w' => e = .returned (.float .f64 (Bt.wf true (pk (m) q))) ∧ Below w.heap.size w w' := fun v h1 h2 h3 => (@sym_ok _ (RF_Above_t2_k b2) _ (@KnowOk.of _ (RF_Above_t2_k b2) _ hops hcalls) (by kernel_rfl) _ _ _ _ h1 rfl h2 _ hG).mono fun e w' h => ⟨h.1.trans h3, h.2⟩
  clear hops hcalls
  cases b2 with
  | true =>
    have h2 : ((m % 2 : Nat) : Int) = 1 := i2.1 rfl
    exact fin _ (RF_Above_t2_r1) rfl (show Ending.returned (.float .f64 (mkW true m q)) = .returned (.float .f64 (Bt.wf true (pk (m) q))) from by rw [mkW_ok h1])
  | false =>
    have h2 : ¬ (((m % 2 : Nat) : Int) = 1) := fun c => Bool.false_ne_true (i2.2 c)
    exact fin _ (RF_Above_t2_r2) rfl (show Ending.returned (.float .f64 (mkW true m q)) = .returned (.float .f64 (Bt.wf true (pk (m) q))) from by rw [mkW_ok h1])
@[reducible] def RF_Above_t3_f : FuncId := 140
@[reducible] def RF_Above_t3_a : List AV := [.lit (.bool true), .sym 0, .sym 1, .lit (.int .u8 3), .lit (.func (.func 92) #[] #[])]
@[reducible] noncomputable def RF_Above_t3_k (b2 : Bool) : Know := ⟨[([0, 5, 66], [.sym 0, .lit (.int .u64 1)], .sym 3),
  ([0, 11, 66], [.sym 3, .lit (.int .u64 1)], .lit (.bool b2))],
  [(178, [.lit (.bool true), .sym 0, .sym 1], .tup [.sym 2, .lit (.bool true)])]⟩
theorem RF_Above_t3_r1 : @comes (RF_Above_t3_k true) Tryz.prog glT 3000 RF_Above_t3_f RF_Above_t3_a = some (.sym 2) := by kernel_rfl
theorem RF_Above_t3_r2 : @comes (RF_Above_t3_k false) Tryz.prog glT 3000 RF_Above_t3_f RF_Above_t3_a = some (.sym 2) := by kernel_rfl
set_option maxRecDepth 100000 in
set_option maxHeartbeats 4000000 in
theorem RF_Above_t3 (m : Nat) (q : Int) (w : World) (hG : Globs glT w) (hm : m < 9007199254740992) (hq1 : -1074 ≤ q) (hq2 : q ≤ 971) (hmn : 4503599627370496 ≤ m ∨ q = -1074) : Calls Tryz.prog 140 #[.bool true, .int .u64 (((m : Nat) : Int)), .int .i64 q, .int .u8 3, .func (.func 92) #[] #[]] w fun e w' => e = .returned (.float .f64 (Bt.wf true (pk (m) q))) ∧ Below w.heap.size w w' := by
  have h1 : okP m q = true := okP_lt hm
  have i1 : true = true ↔ (okP m q = true) := ⟨fun _ => h1, fun _ => rfl⟩
  obtain ⟨b2, i2⟩ := bex (((m % 2 : Nat) : Int) = 1)
  letI : Env := mkEnv glT [.int .u64 (((m : Nat) : Int)), .int .i64 q, .float .f64 (mkW true m q), .int .u64 (((m % 2 : Nat) : Int))] rfl
  have hops : OpsT Tryz.prog (@Know.ops (RF_Above_t3_k b2)) := ⟨opt_odd rfl rfl rfl rfl (by omega),
    opt_eql_i rfl rfl i2,
    trivial⟩
  have hcalls : CallsT Tryz.prog (@Know.calls (RF_Above_t3_k b2)) := ⟨callt rfl rfl fun w hG => bMake_i true m q w (by omega) hq1 hq2 hmn i1 hG,
    trivial⟩
  have fin : ∀ v, @comes (RF_Above_t3_k b2) Tryz.prog glT 3000 RF_Above_t3_f RF_Above_t3_a = some v → ground v = true → Ending.returned (gval v) = .returned (.float .f64 (Bt.wf true (pk (m) q))) → Calls Tryz.prog 140 #[.bool true, .int .u64 (((m : Nat) : Int)), .int .i64 q, .int .u8 3, .func (.func 92) #[] #[]] w fun e w' => e = .returned (.float .f64 (Bt.wf true (pk (m) q))) ∧ Below w.heap.size w w' := fun v h1 h2 h3 => (@sym_ok _ (RF_Above_t3_k b2) _ (@KnowOk.of _ (RF_Above_t3_k b2) _ hops hcalls) (by kernel_rfl) _ _ _ _ h1 rfl h2 _ hG).mono fun e w' h => ⟨h.1.trans h3, h.2⟩
  clear hops hcalls
  cases b2 with
  | true =>
    have h2 : ((m % 2 : Nat) : Int) = 1 := i2.1 rfl
    exact fin _ (RF_Above_t3_r1) rfl (show Ending.returned (.float .f64 (mkW true m q)) = .returned (.float .f64 (Bt.wf true (pk (m) q))) from by rw [mkW_ok h1])
  | false =>
    have h2 : ¬ (((m % 2 : Nat) : Int) = 1) := fun c => Bool.false_ne_true (i2.2 c)
    exact fin _ (RF_Above_t3_r2) rfl (show Ending.returned (.float .f64 (mkW true m q)) = .returned (.float .f64 (Bt.wf true (pk (m) q))) from by rw [mkW_ok h1])
end Go.Proofs.YtajcapliokblfaaGreatDoor
set_option linter.unusedSimpArgs false
set_option linter.unusedVariables false
namespace Go.Proofs.YtajcapliokblfaaGreatDoor
open Go Go.RowKit Nt
/-- What is left, against half of the last place: none, less, half, more. -/
@[irreducible] def rsW (L D : Nat) : Int := if L = 0 then 0 else 2 + cmpN (L * 2) D
theorem rsW_0 (D : Nat) : rsW 0 D = 0 := by unfold rsW; exact if_pos rfl
theorem rsW_n {L D : Nat} (h : L ≠ 0) : rsW L D = 2 + cmpN (L * 2) D := by unfold rsW; exact if_neg h
set_option maxRecDepth 100000 in
set_option maxHeartbeats 400000 in
theorem Prest_c (L D : Nat) (A A' : Option Addr) (c c' : Nat) (w : World) (h1 : nd W L ≤ 20000) (h2 : nd W D ≤ 20000) (r1 : Row w w.heap.size A L (nd W L)) (r2 : Row w w.heap.size A' D (nd W D)) :
    Calls Tryz.prog 143 #[.slice A (nd W L) c, .slice A' (nd W D) c'] w fun e w' => e = .returned (.int .u8 (rsW L D)) ∧ Below w.heap.size w w' := by
  by_cases h0 : L = 0
  · subst h0
    rw [rsW_0, nd_zero]
    clear h1 h2 r1 r2
    go_enter Tryz.func143, Tryz.ntmps143
    go_wp2_with fail
    go_ret
    exact ⟨rfl, Below.refl _ _⟩
  · have HR := Lib.hid (rsW_n (D := D) h0)
    have e1 : (((nd W L : Nat) : Int) == 0) = false := beq_eq_false_iff_ne.2 (fun c => h0 ((nd_eq_zero W2).1 (by omega)))
    have e2 : ¬ ((nd W L : Nat) : Int) = 0 := fun c => h0 ((nd_eq_zero W2).1 (by omega))
    have e3 : ¬ nd W L = 0 := fun c => h0 ((nd_eq_zero W2).1 c)
    have KS := Lib.hid (Shl_c A c L 1 w.heap.size w (by omega) r1 (Nat.le_refl _))
    have hb1 : nd W (L * 2 ^ 1) ≤ 30000 := Nat.le_trans (mul_words L (2 ^ 1)) (by rw [show (2 : Nat) ^ 1 = 2 from rfl, nd_unique (b := W) (n := 2) (k := 0) W2 (by decide) (by rw [W_eq]; decide)]; omega)
    have R2 := Lib.hid r2
    have HB1 := Lib.hid hb1
    have HB2 := Lib.hid h2
    have hm : L * 2 ^ 1 = L * 2 := by rw [Nat.pow_one]
    rw [hm] at KS HB1
    clear hm hb1 h1 h2 r1 r2 h0
    go_enter Tryz.func143, Tryz.ntmps143
    go_wp2_with fail
    refine KS.out.mono ?_
    intro ee w1 hp
    obtain ⟨A1, c1, rfl, hc1, hr1, hb⟩ := hp.get
    have KC := Lib.hid (Cmp_c A1 A' c1 c' (L * 2) D w1.heap.size w1 (by have := HB1.out; omega) (by have := HB2.out; omega) hr1 ((R2.out.below hb).more hb.size))
    have HBB := Lib.hid hb
    clear hp hc1 hr1 hb KS
    go_wp2_with fail
    refine KC.out.mono ?_
    rintro ee w2 ⟨rfl, nn, rfl⟩
    obtain ⟨u1, u2⟩ := cmp_b (L * 2) D
    have hw : IntKind.u8.wrap (2 + cmpN (L * 2) D) = 2 + cmpN (L * 2) D := by
      rcases (show cmpN (L * 2) D = -1 ∨ cmpN (L * 2) D = 0 ∨ cmpN (L * 2) D = 1 by omega) with c | c | c <;> rw [c] <;> decide
    have hw2 : IntKind.i64.wrap (2 + cmpN (L * 2) D) = 2 + cmpN (L * 2) D := IntWalk.i64_in _ ⟨by omega, by omega⟩
    clear u1 u2 KC
    generalize cmpN (L * 2) D = cc at *
    go_wp2_with fail
    go_ret
    exact ⟨by rw [HR.out]; rfl, below_drewN HBB.out nn⟩
theorem nd_shl {n k : Nat} (h : nd W n ≤ 2100) (hk : k ≤ 131072) : nd W (n * 2 ^ k) ≤ 10000 := by
  refine Nat.le_trans (mul_words n (2 ^ k)) ?_
  have key : ∀ q, 131072 < 64 * q → nd W (2 ^ k) ≤ q := fun q hq => nd_le W2 (by
    rw [show W ^ q = 2 ^ (64 * q) by rw [show W = 2 ^ 64 by rw [W_eq], ← Nat.pow_mul]]
    exact (Nat.pow_lt_pow_iff_right (by omega)).2 (by omega))
  have := key 2049 (by omega)
  omega
/-- The greatest power of two that is not above n over d. -/
@[irreducible] def tpZ (n d : Nat) : Int := if n * 2 ^ (max (-((nd 2 n : Int) - nd 2 d)) 0).toNat < d * 2 ^ (max ((nd 2 n : Int) - nd 2 d) 0).toNat then (nd 2 n : Int) - nd 2 d - 1 else (nd 2 n : Int) - nd 2 d
set_option maxRecDepth 100000 in
set_option maxHeartbeats 400000 in
theorem Ftop_c (g : Bool) (n d : Nat) (A A' : Option Addr) (c c' : Nat) (w : World) (hn : fits n) (hd : fits d) (r1 : Row w w.heap.size A n (nd W n)) (r2 : Row w w.heap.size A' d (nd W d)) :
    Calls Tryz.prog 138 #[.agg #[.bool g, .slice A (nd W n) c, .slice A' (nd W d) c']] w fun e w' => e = .returned (.int .i64 (tpZ n d)) ∧ Below w.heap.size w w' := by
  obtain ⟨bl, hbl⟩ : ∃ bl : List C3, bl = [(.bool g, .slice A (nd W n) c, .slice A' (nd W d) c')] := ⟨_, rfl⟩
  have T0 := BL.start1 w (.bool g) (.slice A (nd W n) c) (.slice A' (nd W d) c') 77
  rw [← hbl] at T0
  have L0 : ∀ U, BL w bl U → U.cell? ⟨w.heap.size, 0, none⟩ = some (.bool g) := fun U hU => (hU.box 0 (.bool g, .slice A (nd W n) c, .slice A' (nd W d) c') (by rw [hbl]; rfl)).2.1
  have L1 : ∀ U, BL w bl U → U.cell? ⟨w.heap.size, 1, none⟩ = some (.slice A (nd W n) c) := fun U hU => (hU.box 0 (.bool g, .slice A (nd W n) c, .slice A' (nd W d) c') (by rw [hbl]; rfl)).2.2.1
  have L2 : ∀ U, BL w bl U → U.cell? ⟨w.heap.size, 2, none⟩ = some (.slice A' (nd W d) c') := fun U hU => (hU.box 0 (.bool g, .slice A (nd W n) c, .slice A' (nd W d) c') (by rw [hbl]; rfl)).2.2.2.1
  have HBL := Lib.hid hbl
  clear hbl
  have b1 := bits_131072' hn
  have b2 := bits_131072' hd
  have z1 := fits_words hn
  have z2 := fits_words hd
  have KL1 : Hid (∀ W', BL w bl W' → Calls Tryz.prog 113 #[.slice A (nd W n) c] W' (fun e w' => e = .returned (.int .i64 (nd 2 n : Nat)) ∧ W' = w')) := Lib.hid fun W' hT => Len_c A c n W'.heap.size W' (by omega) ((r1.below hT.1).more hT.1.size)
  have KL2 : Hid (∀ W', BL w bl W' → Calls Tryz.prog 113 #[.slice A' (nd W d) c'] W' (fun e w' => e = .returned (.int .i64 (nd 2 d : Nat)) ∧ W' = w')) := Lib.hid fun W' hT => Len_c A' c' d W'.heap.size W' (by omega) ((r2.below hT.1).more hT.1.size)
  obtain ⟨tt, ht⟩ : ∃ tt : Int, tt = (nd 2 n : Int) - nd 2 d := ⟨_, rfl⟩
  obtain ⟨k1, hk1⟩ : ∃ k : Nat, (k : Int) = max (-tt) 0 := ⟨(max (-tt) 0).toNat, by omega⟩
  obtain ⟨k2, hk2⟩ : ∃ k : Nat, (k : Int) = max tt 0 := ⟨(max tt 0).toNat, by omega⟩
  have HT : Hid (tpZ n d = if n * 2 ^ k1 < d * 2 ^ k2 then tt - 1 else tt) := Lib.hid (by
    unfold tpZ
    rw [← ht, ← hk1, ← hk2]
    rfl)
  have hk1b : k1 ≤ 131072 := by omega
  have hk2b : k2 ≤ 131072 := by omega
  have KS1 : Hid (∀ W', BL w bl W' → Calls Tryz.prog 118 #[.slice A (nd W n) c, .int .i64 (k1 : Nat)] W' (NumPost (n * 2 ^ k1) W')) := Lib.hid fun W' hT => Shl_c A c n k1 W'.heap.size W' (by omega) ((r1.below hT.1).more hT.1.size) (Nat.le_refl _)
  have KS2 : Hid (∀ W', BL w bl W' → Calls Tryz.prog 118 #[.slice A' (nd W d) c', .int .i64 (k2 : Nat)] W' (NumPost (d * 2 ^ k2) W')) := Lib.hid fun W' hT => Shl_c A' c' d k2 W'.heap.size W' (by omega) ((r2.below hT.1).more hT.1.size) (Nat.le_refl _)
  have hX : nd W (n * 2 ^ k1) ≤ 10000 := nd_shl (by omega) hk1b
  have hY : nd W (d * 2 ^ k2) ≤ 10000 := nd_shl (by omega) hk2b
  have hw : IntKind.i64.wrap ((nd 2 n : Int) - nd 2 d) = tt := by rw [← ht]; exact IntWalk.i64_in _ ⟨by omega, by omega⟩
  have hw2 : IntKind.i64.wrap (-tt) = -tt := IntWalk.i64_in _ ⟨by omega, by omega⟩
  have hw3 : IntKind.i64.wrap (tt - 1) = tt - 1 := IntWalk.i64_in _ ⟨by omega, by omega⟩
  have hm1 : max (-tt) 0 = (k1 : Int) := hk1.symm
  have hm2 : max 0 (-tt) = (k1 : Int) := by omega
  have hm3 : max tt 0 = (k2 : Int) := hk2.symm
  have hm4 : max 0 tt = (k2 : Int) := by omega
  clear hk1 hk2 ht hn hd b1 b2 z1 z2 r1 r2 hk1b hk2b
  generalize n * 2 ^ k1 = X at *
  generalize d * 2 ^ k2 = Y at *
  have HX := Lib.hid hX
  have HY := Lib.hid hY
  clear hX hY
  generalize tpZ n d = R at *
  generalize nd 2 n = ln at *
  generalize nd 2 d = ld at *
  go_enter Tryz.func138, Tryz.ntmps138
  go_wp2_with fail
  go_region_held3 (BL w bl) (first | assumption | exact BL.step (by assumption) (by assumption) | exact BL.drew (by assumption) | exact BL.drawn (by assumption) _)
    (first
      | (go_at_call 113; (with_reducible refine (KL1.out _ (by assumption)).mono ?_); rintro ee wa ⟨rfl, rfl⟩)
      | (go_at_call 113; (with_reducible refine (KL2.out _ (by assumption)).mono ?_); rintro ee wa ⟨rfl, rfl⟩))
  rename_i hHeld
  replace T0 := hHeld
  clear hHeld KL1 KL2
  obtain ⟨p0, p1, p2, p3, p4, p5, p6⟩ := T0.boxZ (.bool g, .slice A (nd W n) c, .slice A' (nd W d) c') (by rw [HBL.out]; rfl)
  go_wp2_with fail
  clear p0 p1 p2 p3 p4 p5 p6
  go_region_held3 (BL w bl) (first | assumption | exact BL.step (by assumption) (by assumption) | exact BL.drew (by assumption) | exact BL.drawn (by assumption) _)
    (first
      | (go_at_call 118; (with_reducible refine (KS1.out _ (by assumption)).mono ?_); rintro ee wa hp; obtain ⟨A1, c1, rfl, hc1, hr1, hb1⟩ := hp.get; clear hp)
      | (go_at_call 118; (with_reducible refine (KS2.out _ (by assumption)).mono ?_); rintro ee wb hp; obtain ⟨A2, c2, rfl, hc2, hr2, hb2⟩ := hp.get; clear hp; have hr1' := (hr1.below hb2).more hb2.size; clear hr1)
      | (go_at_call 131; (refine (Cmp_c _ _ _ _ X Y _ _ (Nat.le_trans HX.out (by decide)) (Nat.le_trans HY.out (by decide)) hr1' hr2).mono ?_); rintro ee wc ⟨rfl, nn, rfl⟩; clear hr1' hr2))
  all_goals
    rename_i hHeld
    have HF := Lib.hid hHeld.1
    clear hHeld T0 L0 L1 L2 KS1 KS2
    by_cases hl : X < Y
    · have hc := cmp_neg hl
      have hc2 : cmpN X Y < 0 := of_decide_eq_true hc
      have hc3 : ¬ 0 ≤ cmpN X Y := by omega
      have HR := Lib.hid (show R = tt - 1 by rw [HT.out, if_pos hl])
      clear hl
      generalize cmpN X Y = cc at *
      go_wp2_with fail
      go_ret
      exact ⟨by rw [HR.out]; rfl, HF.out⟩
    · have hc := cmp_pos (Nat.le_of_not_lt hl)
      have hc2 : ¬ cmpN X Y < 0 := of_decide_eq_false hc
      have hc3 : 0 ≤ cmpN X Y := by omega
      have HR := Lib.hid (show R = tt by rw [HT.out, if_neg hl])
      clear hl
      generalize cmpN X Y = cc at *
      go_wp2_with fail
      go_ret
      exact ⟨by rw [HR.out]; rfl, HF.out⟩
end Go.Proofs.YtajcapliokblfaaGreatDoor
set_option linter.unusedSimpArgs false
set_option linter.unusedVariables false
namespace Go.Proofs.YtajcapliokblfaaGreatDoor
open Go Go.RowKit Nt
def rk1 (q : Int) : Nat := (max (-q) 0).toNat
def rk2 (q : Int) : Nat := (max q 0).toNat
/-- The numerator and denominator at an exponent. -/
def rX (n : Nat) (q : Int) : Nat := n * 2 ^ rk1 q
def rY (d : Nat) (q : Int) : Nat := d * 2 ^ rk2 q
theorem rY_pos {d : Nat} (h : d ≠ 0) (q : Int) : rY d q ≠ 0 := Nat.mul_ne_zero h (Nat.pos_iff_ne_zero.1 (Nat.two_pow_pos _))
theorem sc_iff {n d a b a' b' : Nat} (h : a + b' = a' + b) : d * 2 ^ a ≤ n * 2 ^ b ↔ d * 2 ^ a' ≤ n * 2 ^ b' := by
  have e1 : d * 2 ^ a * 2 ^ b' = d * 2 ^ a' * 2 ^ b := by rw [Nat.mul_assoc, Nat.mul_assoc, ← Nat.pow_add, ← Nat.pow_add, h]
  have e2 : n * 2 ^ b * 2 ^ b' = n * 2 ^ b' * 2 ^ b := Nat.mul_right_comm _ _ _
  have p1 := Nat.two_pow_pos b'
  have p2 := Nat.two_pow_pos b
  constructor
  · intro k
    have := Nat.mul_le_mul_right (2 ^ b') k
    rw [e1, e2] at this
    exact Nat.le_of_mul_le_mul_right this p2
  · intro k
    have := Nat.mul_le_mul_right (2 ^ b) k
    rw [← e1, ← e2] at this
    exact Nat.le_of_mul_le_mul_right this p1
/-- Is 2 to the power z at most n over d? -/
def Gz (n d : Nat) (z : Int) : Prop := rY d z ≤ rX n z
theorem Gz_at {n d a b : Nat} {z : Int} (h : (a : Int) - b = z) : Gz n d z ↔ d * 2 ^ a ≤ n * 2 ^ b := by
  unfold Gz rY rX
  exact sc_iff (by unfold rk1 rk2; omega)
theorem Gz_shift (n d : Nat) (q : Int) (k : Nat) : rY d q * 2 ^ k ≤ rX n q ↔ Gz n d (q + k) := by
  have e : rY d q * 2 ^ k = d * 2 ^ (rk2 q + k) := by unfold rY; rw [Nat.mul_assoc, ← Nat.pow_add]
  rw [e]
  exact (Gz_at (by unfold rk1 rk2; omega)).symm
theorem Gz_mono {n d : Nat} {z z' : Int} (h : Gz n d z) (hz : z' ≤ z) : Gz n d z' := by
  obtain ⟨k, hk⟩ : ∃ k : Nat, z = z' + k := ⟨(z - z').toNat, by omega⟩
  rw [hk] at h
  have h1 := (Gz_shift n d z' k).2 h
  exact Nat.le_trans (Nat.le_mul_of_pos_right _ (Nat.two_pow_pos k)) h1
theorem tp_spec {n d : Nat} (hn : n ≠ 0) (hd : d ≠ 0) : Gz n d (tpZ n d) ∧ ¬ Gz n d (tpZ n d + 1) ∧ (nd 2 n : Int) - nd 2 d - 1 ≤ tpZ n d ∧ tpZ n d ≤ (nd 2 n : Int) - nd 2 d := by
  have n1 := lt_nd (b := 2) (n := n) (by omega)
  have d1 := lt_nd (b := 2) (n := d) (by omega)
  have nn : nd 2 n ≠ 0 := fun c => hn ((nd_eq_zero (by omega)).1 c)
  have dd : nd 2 d ≠ 0 := fun c => hd ((nd_eq_zero (by omega)).1 c)
  have n2 : 2 ^ (nd 2 n - 1) ≤ n := (pow_le_iff (by omega) _ _).2 (by omega)
  have d2 : 2 ^ (nd 2 d - 1) ≤ d := (pow_le_iff (by omega) _ _).2 (by omega)
  have g1 : Gz n d ((nd 2 n : Int) - nd 2 d - 1) := (Gz_at (a := nd 2 n - 1) (b := nd 2 d) (by omega)).2 (by
    rw [Nat.mul_comm]; exact Nat.mul_le_mul n2 (Nat.le_of_lt d1))
  have g2 : ¬ Gz n d ((nd 2 n : Int) - nd 2 d + 1) := fun c => by
    have c2 := (Gz_at (a := nd 2 n) (b := nd 2 d - 1) (by omega)).1 c
    have h3 : n * 2 ^ (nd 2 d - 1) < 2 ^ nd 2 n * d := Nat.lt_of_lt_of_le (Nat.mul_lt_mul_of_pos_right n1 (Nat.two_pow_pos _)) (Nat.mul_le_mul_left _ d2)
    rw [Nat.mul_comm d] at c2
    omega
  have key : n * 2 ^ (max (-((nd 2 n : Int) - nd 2 d)) 0).toNat < d * 2 ^ (max ((nd 2 n : Int) - nd 2 d) 0).toNat ↔ ¬ Gz n d ((nd 2 n : Int) - nd 2 d) := by
    unfold Gz rX rY rk1 rk2; omega
  unfold tpZ
  by_cases c : n * 2 ^ (max (-((nd 2 n : Int) - nd 2 d)) 0).toNat < d * 2 ^ (max ((nd 2 n : Int) - nd 2 d) 0).toNat
  · rw [if_pos c]
    refine ⟨g1, ?_, Int.le_refl _, by omega⟩
    rw [show (nd 2 n : Int) - nd 2 d - 1 + 1 = (nd 2 n : Int) - nd 2 d by omega]
    exact key.1 c
  · rw [if_neg c]
    exact ⟨Classical.not_not.1 (fun k => c (key.2 k)), g2, by omega, by omega⟩
/-- The exponent of the last place. -/
def rqZ (n d : Nat) : Int := max (tpZ n d - 52) (-1074)
def rMq (n d : Nat) (q : Int) : Nat := rX n q / rY d q
def rLq (n d : Nat) (q : Int) : Nat := rX n q % rY d q
theorem pow_rMq {n d : Nat} (hd : d ≠ 0) (q : Int) (k : Nat) : 2 ^ k ≤ rMq n d q ↔ Gz n d (q + k) := by
  rw [← Gz_shift]
  unfold rMq
  rw [Nat.le_div_iff_mul_le (Nat.pos_of_ne_zero (rY_pos hd q)), Nat.mul_comm]
theorem rMq_lt {n d : Nat} (hn : n ≠ 0) (hd : d ≠ 0) : rMq n d (rqZ n d) < 9007199254740992 := by
  obtain ⟨h1, h2, h3, h4⟩ := tp_spec hn hd
  have h := pow_rMq (n := n) hd (rqZ n d) 53
  have : ¬ Gz n d (rqZ n d + (53 : Nat)) := fun c => h2 (Gz_mono c (by unfold rqZ; omega))
  have h5 : ¬ 2 ^ 53 ≤ rMq n d (rqZ n d) := fun c => this (h.1 c)
  have e : (2 : Nat) ^ 53 = 9007199254740992 := by decide
  rw [e] at h5
  omega
theorem rMq_norm {n d : Nat} (hn : n ≠ 0) (hd : d ≠ 0) : 4503599627370496 ≤ rMq n d (rqZ n d) ∨ rqZ n d = -1074 := by
  obtain ⟨h1, h2, h3, h4⟩ := tp_spec hn hd
  by_cases c : tpZ n d - 52 ≤ -1074
  · exact Or.inr (by unfold rqZ; omega)
  · refine Or.inl ?_
    have h := (pow_rMq (n := n) hd (rqZ n d) 52).2 (Gz_mono h1 (by unfold rqZ; omega))
    have e : (2 : Nat) ^ 52 = 4503599627370496 := by decide
    rw [e] at h; exact h
theorem rqZ_b (n d : Nat) (h : tpZ n d ≤ 1023) : -1074 ≤ rqZ n d ∧ rqZ n d ≤ 971 := by unfold rqZ; omega
theorem rX_step (n d : Nat) {q : Int} (h : q ≤ 0) : rX n (q - 1) = rX n q * 2 ∧ rY d (q - 1) = rY d q := by
  have h1 : rk1 (q - 1) = rk1 q + 1 := by unfold rk1; omega
  have h2 : rk2 (q - 1) = rk2 q := by unfold rk2; omega
  unfold rX rY
  rw [h1, h2, Nat.pow_succ, Nat.mul_assoc]
  exact ⟨rfl, rfl⟩
/-- Far below the least float. -/
theorem rMq_tiny {n d : Nat} (hn : n ≠ 0) (hd : d ≠ 0) (h : tpZ n d < -1075) : rqZ n d = -1074 ∧ rMq n d (-1074) = 0 ∧ rsW (rLq n d (-1074)) (rY d (-1074)) = 1 := by
  obtain ⟨h1, h2, h3, h4⟩ := tp_spec hn hd
  have a1 : ¬ Gz n d (-1074) := fun c => h2 (Gz_mono c (by omega))
  have a2 : ¬ Gz n d (-1075) := fun c => h2 (Gz_mono c (by omega))
  have hX : rX n (-1074) < rY d (-1074) := by unfold Gz at a1; omega
  have hX0 : rX n (-1074) ≠ 0 := Nat.mul_ne_zero hn (Nat.pos_iff_ne_zero.1 (Nat.two_pow_pos _))
  have hM : rMq n d (-1074) = 0 := Nat.div_eq_of_lt hX
  have hL : rLq n d (-1074) = rX n (-1074) := Nat.mod_eq_of_lt hX
  have h2X : rX n (-1074) * 2 < rY d (-1074) := by
    obtain ⟨e1, e2⟩ := rX_step n d (q := -1074) (by decide)
    have e3 : ((-1074 : Int) - 1) = -1075 := by decide
    rw [e3] at e1 e2
    unfold Gz at a2
    rw [e1, e2] at a2
    omega
  refine ⟨by unfold rqZ; omega, hM, ?_⟩
  rw [rsW_n (by rw [hL]; exact hX0), hL, cmpN_lt h2X]
  rfl
end Go.Proofs.YtajcapliokblfaaGreatDoor
set_option linter.unusedSimpArgs false
set_option linter.unusedVariables false
namespace Go.Proofs.YtajcapliokblfaaGreatDoor
open Go Go.RowKit Nt
/-- Is it rounded away from 0? 0: to the nearest, 1: below, 2: above. -/
def upW (k : Nat) (g : Bool) (m : Nat) (r : Int) : Bool := if k = 0 then decide (r = 3 ∨ (r = 2 ∧ m % 2 = 1)) else if k = 1 then g && decide (r ≠ 0) else !g && decide (r ≠ 0)
def mUp (k : Nat) (g : Bool) (m : Nat) (r : Int) : Nat := if upW k g m r = true then m + 1 else m
theorem r_cases {r : Int} (h : 0 ≤ r ∧ r ≤ 3) : r = 0 ∨ r = 1 ∨ r = 2 ∨ r = 3 := by omega
theorem RF_Near_c (g : Bool) (m : Nat) (q r : Int) (w : World) (hG : Globs glT w) (hr : 0 ≤ r ∧ r ≤ 3) (hm : m < 9007199254740992) (hq1 : -1074 ≤ q) (hq2 : q ≤ 971) (hmn : 4503599627370496 ≤ m ∨ q = -1074) : Calls Tryz.prog 140 #[.bool g, .int .u64 ((m : Nat) : Int), .int .i64 q, .int .u8 r, .func (.func 90) #[] #[]] w fun e w' => e = .returned (.float .f64 (Bt.wf g (pk (mUp 0 g m r) q))) ∧ Below w.heap.size w w' := by
  unfold mUp upW
  rcases r_cases hr with rfl | rfl | rfl | rfl <;> cases g
  · simpa using RF_Near_f0 m q w hG hm hq1 hq2 hmn
  · simpa using RF_Near_t0 m q w hG hm hq1 hq2 hmn
  · simpa using RF_Near_f1 m q w hG hm hq1 hq2 hmn
  · simpa using RF_Near_t1 m q w hG hm hq1 hq2 hmn
  · by_cases ho : m % 2 = 1
    · simpa [ho] using RF_Near_f2o m q w hG hm hq1 hq2 hmn ho
    · have ho2 : m % 2 = 0 := by omega
      simpa [ho2] using RF_Near_f2e m q w hG hm hq1 hq2 hmn ho2
  · by_cases ho : m % 2 = 1
    · simpa [ho] using RF_Near_t2o m q w hG hm hq1 hq2 hmn ho
    · have ho2 : m % 2 = 0 := by omega
      simpa [ho2] using RF_Near_t2e m q w hG hm hq1 hq2 hmn ho2
  · simpa using RF_Near_f3 m q w hG hm hq1 hq2 hmn
  · simpa using RF_Near_t3 m q w hG hm hq1 hq2 hmn
theorem RF_Below_c (g : Bool) (m : Nat) (q r : Int) (w : World) (hG : Globs glT w) (hr : 0 ≤ r ∧ r ≤ 3) (hm : m < 9007199254740992) (hq1 : -1074 ≤ q) (hq2 : q ≤ 971) (hmn : 4503599627370496 ≤ m ∨ q = -1074) : Calls Tryz.prog 140 #[.bool g, .int .u64 ((m : Nat) : Int), .int .i64 q, .int .u8 r, .func (.func 91) #[] #[]] w fun e w' => e = .returned (.float .f64 (Bt.wf g (pk (mUp 1 g m r) q))) ∧ Below w.heap.size w w' := by
  unfold mUp upW
  rcases r_cases hr with rfl | rfl | rfl | rfl <;> cases g
  · simpa using RF_Below_f0 m q w hG hm hq1 hq2 hmn
  · simpa using RF_Below_t0 m q w hG hm hq1 hq2 hmn
  · simpa using RF_Below_f1 m q w hG hm hq1 hq2 hmn
  · simpa using RF_Below_t1 m q w hG hm hq1 hq2 hmn
  · simpa using RF_Below_f2 m q w hG hm hq1 hq2 hmn
  · simpa using RF_Below_t2 m q w hG hm hq1 hq2 hmn
  · simpa using RF_Below_f3 m q w hG hm hq1 hq2 hmn
  · simpa using RF_Below_t3 m q w hG hm hq1 hq2 hmn
theorem RF_Above_c (g : Bool) (m : Nat) (q r : Int) (w : World) (hG : Globs glT w) (hr : 0 ≤ r ∧ r ≤ 3) (hm : m < 9007199254740992) (hq1 : -1074 ≤ q) (hq2 : q ≤ 971) (hmn : 4503599627370496 ≤ m ∨ q = -1074) : Calls Tryz.prog 140 #[.bool g, .int .u64 ((m : Nat) : Int), .int .i64 q, .int .u8 r, .func (.func 92) #[] #[]] w fun e w' => e = .returned (.float .f64 (Bt.wf g (pk (mUp 2 g m r) q))) ∧ Below w.heap.size w w' := by
  unfold mUp upW
  rcases r_cases hr with rfl | rfl | rfl | rfl <;> cases g
  · simpa using RF_Above_f0 m q w hG hm hq1 hq2 hmn
  · simpa using RF_Above_t0 m q w hG hm hq1 hq2 hmn
  · simpa using RF_Above_f1 m q w hG hm hq1 hq2 hmn
  · simpa using RF_Above_t1 m q w hG hm hq1 hq2 hmn
  · simpa using RF_Above_f2 m q w hG hm hq1 hq2 hmn
  · simpa using RF_Above_t2 m q w hG hm hq1 hq2 hmn
  · simpa using RF_Above_f3 m q w hG hm hq1 hq2 hmn
  · simpa using RF_Above_t3 m q w hG hm hq1 hq2 hmn
set_option maxRecDepth 100000 in
theorem RHuge_Near (g : Bool) (w : World) (hG : Globs glT w) : Calls Tryz.prog 139 #[.bool g, .func (.func 90) #[] #[]] w fun e w' => e = .returned (.float .f64 (Bt.wf g (pk (mUp 0 g 9007199254740991 3) 971))) ∧ Below w.heap.size w w' := by
  have K : Hid (∀ w, Globs glT w → Calls Tryz.prog 140 #[.bool g, .int .u64 9007199254740991, .int .i64 971, .int .u8 3, .func (.func 90) #[] #[]] w fun e w' => e = .returned (.float .f64 (Bt.wf g (pk (mUp 0 g 9007199254740991 3) 971))) ∧ Below w.heap.size w w') := Lib.hid fun w hG => RF_Near_c g 9007199254740991 971 3 w hG (by omega) (by omega) (by omega) (by omega) (Or.inl (by omega))
  generalize Bt.wf g (pk (mUp 0 g 9007199254740991 3) 971) = z at *
  go_enter Tryz.func139, Tryz.ntmps139
  go_wp2_with fail
  refine (K.out _ hG).mono ?_
  rintro ee w1 ⟨rfl, hb⟩
  go_wp2_with fail
  go_ret
  exact ⟨rfl, hb⟩
set_option maxRecDepth 100000 in
theorem RHuge_Below (g : Bool) (w : World) (hG : Globs glT w) : Calls Tryz.prog 139 #[.bool g, .func (.func 91) #[] #[]] w fun e w' => e = .returned (.float .f64 (Bt.wf g (pk (mUp 1 g 9007199254740991 3) 971))) ∧ Below w.heap.size w w' := by
  have K : Hid (∀ w, Globs glT w → Calls Tryz.prog 140 #[.bool g, .int .u64 9007199254740991, .int .i64 971, .int .u8 3, .func (.func 91) #[] #[]] w fun e w' => e = .returned (.float .f64 (Bt.wf g (pk (mUp 1 g 9007199254740991 3) 971))) ∧ Below w.heap.size w w') := Lib.hid fun w hG => RF_Below_c g 9007199254740991 971 3 w hG (by omega) (by omega) (by omega) (by omega) (Or.inl (by omega))
  generalize Bt.wf g (pk (mUp 1 g 9007199254740991 3) 971) = z at *
  go_enter Tryz.func139, Tryz.ntmps139
  go_wp2_with fail
  refine (K.out _ hG).mono ?_
  rintro ee w1 ⟨rfl, hb⟩
  go_wp2_with fail
  go_ret
  exact ⟨rfl, hb⟩
set_option maxRecDepth 100000 in
theorem RHuge_Above (g : Bool) (w : World) (hG : Globs glT w) : Calls Tryz.prog 139 #[.bool g, .func (.func 92) #[] #[]] w fun e w' => e = .returned (.float .f64 (Bt.wf g (pk (mUp 2 g 9007199254740991 3) 971))) ∧ Below w.heap.size w w' := by
  have K : Hid (∀ w, Globs glT w → Calls Tryz.prog 140 #[.bool g, .int .u64 9007199254740991, .int .i64 971, .int .u8 3, .func (.func 92) #[] #[]] w fun e w' => e = .returned (.float .f64 (Bt.wf g (pk (mUp 2 g 9007199254740991 3) 971))) ∧ Below w.heap.size w w') := Lib.hid fun w hG => RF_Above_c g 9007199254740991 971 3 w hG (by omega) (by omega) (by omega) (by omega) (Or.inl (by omega))
  generalize Bt.wf g (pk (mUp 2 g 9007199254740991 3) 971) = z at *
  go_enter Tryz.func139, Tryz.ntmps139
  go_wp2_with fail
  refine (K.out _ hG).mono ?_
  rintro ee w1 ⟨rfl, hb⟩
  go_wp2_with fail
  go_ret
  exact ⟨rfl, hb⟩
end Go.Proofs.YtajcapliokblfaaGreatDoor
set_option linter.unusedSimpArgs false
set_option linter.unusedVariables false
namespace Go.Proofs.YtajcapliokblfaaGreatDoor
open Go Go.RowKit Nt
/-- Both boxes of 'rounded', and the rows of its fraction. -/
def RB (w : World) (c : C3) (C : Nat) (f : C3) (A : Option Addr) (n : Nat) (A' : Option Addr) (d : Nat) (V : World) : Prop := Below w.heap.size w V ∧ Bx3 V w.heap.size c ∧ Bx3 V C f ∧ Row V V.heap.size A n (nd W n) ∧ Row V V.heap.size A' d (nd W d)
theorem RB.step {w : World} {c : C3} {C : Nat} {f : C3} {A : Option Addr} {n : Nat} {A' : Option Addr} {d : Nat} {V V' : World} (h : RB w c C f A n A' d V) (hb : Below V.heap.size V V') : RB w c C f A n A' d V' :=
  ⟨below_chain h.1 hb, h.2.1.step hb, h.2.2.1.step hb, (h.2.2.2.1.below hb).more hb.size, (h.2.2.2.2.below hb).more hb.size⟩
theorem RB.drew {w : World} {c : C3} {C : Nat} {f : C3} {A : Option Addr} {n : Nat} {A' : Option Addr} {d : Nat} {V : World} (h : RB w c C f A n A' d V) : RB w c C f A n A' d V.drew := h.step (Below.refl _ _).drew
theorem RB.drawn {w : World} {c : C3} {C : Nat} {f : C3} {A : Option Addr} {n : Nat} {A' : Option Addr} {d : Nat} {V : World} (h : RB w c C f A n A' d V) (k : Nat) : RB w c C f A n A' d (V.drewN k) := h.step (below_drewN (Below.refl _ _) k)
theorem RB.of {w : World} {c : C3} {V : World} {A : Option Addr} {n : Nat} {A' : Option Addr} {d : Nat} (h : BL w [c] V) (x y z : Value) (T : TypeId) (h1 : Row V V.heap.size A n (nd W n)) (h2 : Row V V.heap.size A' d (nd W d)) : RB w c V.heap.size (x, y, z) A n A' d (V.alloc (.cells #[x, y, z] T)) := by
  have hb : Below V.heap.size V (V.alloc (.cells #[x, y, z] T)) := (Below.refl _ _).alloc (Nat.le_refl _) _
  exact ⟨below_chain h.1 hb, (h.2 0 c rfl).step hb, Bx3.new V x y z T, (h1.below hb).more hb.size, (h2.below hb).more hb.size⟩
theorem RB.low {w : World} {c : C3} {C : Nat} {f : C3} {A : Option Addr} {n : Nat} {A' : Option Addr} {d : Nat} {V : World} (h : RB w c C f A n A' d V) : Below w.heap.size w V := h.1
theorem RB.b0 {w : World} {c : C3} {C : Nat} {f : C3} {A : Option Addr} {n : Nat} {A' : Option Addr} {d : Nat} {V : World} (h : RB w c C f A n A' d V) : Bx3 V w.heap.size c := h.2.1
theorem RB.b1 {w : World} {c : C3} {C : Nat} {f : C3} {A : Option Addr} {n : Nat} {A' : Option Addr} {d : Nat} {V : World} (h : RB w c C f A n A' d V) : Bx3 V C f := h.2.2.1
theorem RB.r0 {w : World} {c : C3} {C : Nat} {f : C3} {A : Option Addr} {n : Nat} {A' : Option Addr} {d : Nat} {V : World} (h : RB w c C f A n A' d V) : Row V V.heap.size A n (nd W n) := h.2.2.2.1
theorem RB.r1 {w : World} {c : C3} {C : Nat} {f : C3} {A : Option Addr} {n : Nat} {A' : Option Addr} {d : Nat} {V : World} (h : RB w c C f A n A' d V) : Row V V.heap.size A' d (nd W d) := h.2.2.2.2
set_option maxRecDepth 100000 in
theorem RLeast_c (T : Int) (w : World) (h1 : -1000000 ≤ T) (h2 : T ≤ 1000000) : Calls Tryz.prog 141 #[.int .i64 T] w fun e w' => e = .returned (.int .i64 (max (T - 52) (-1074))) ∧ Below w.heap.size w w' := by
  have hw : IntKind.i64.wrap (T - 52) = T - 52 := IntWalk.i64_in _ ⟨by omega, by omega⟩
  have hc : max (-1074) (T - 52) = max (T - 52) (-1074) := Int.max_comm _ _
  go_enter Tryz.func141, Tryz.ntmps141
  go_wp2_with fail
  go_ret
  exact ⟨by first | rfl | rw [hc], Below.refl _ _⟩
def SD (w : World) (c : C3) (C : Nat) (f : C3) (A : Option Addr) (n : Nat) (A' : Option Addr) (d : Nat) (B : Option Addr) (L : Nat) (B' : Option Addr) (Y : Nat) (V : World) : Prop := RB w c C f A n A' d V ∧ Row V V.heap.size B L (nd W L) ∧ Row V V.heap.size B' Y (nd W Y)
theorem SD.step {w : World} {c : C3} {C : Nat} {f : C3} {A : Option Addr} {n : Nat} {A' : Option Addr} {d : Nat} {B : Option Addr} {L : Nat} {B' : Option Addr} {Y : Nat} {V V' : World} (h : SD w c C f A n A' d B L B' Y V) (hb : Below V.heap.size V V') : SD w c C f A n A' d B L B' Y V' :=
  ⟨h.1.step hb, (h.2.1.below hb).more hb.size, (h.2.2.below hb).more hb.size⟩
theorem SD.drew {w : World} {c : C3} {C : Nat} {f : C3} {A : Option Addr} {n : Nat} {A' : Option Addr} {d : Nat} {B : Option Addr} {L : Nat} {B' : Option Addr} {Y : Nat} {V : World} (h : SD w c C f A n A' d B L B' Y V) : SD w c C f A n A' d B L B' Y V.drew := h.step (Below.refl _ _).drew
theorem SD.drawn {w : World} {c : C3} {C : Nat} {f : C3} {A : Option Addr} {n : Nat} {A' : Option Addr} {d : Nat} {B : Option Addr} {L : Nat} {B' : Option Addr} {Y : Nat} {V : World} (h : SD w c C f A n A' d B L B' Y V) (k : Nat) : SD w c C f A n A' d B L B' Y (V.drewN k) := h.step (below_drewN (Below.refl _ _) k)
theorem SD.low {w : World} {c : C3} {C : Nat} {f : C3} {A : Option Addr} {n : Nat} {A' : Option Addr} {d : Nat} {B : Option Addr} {L : Nat} {B' : Option Addr} {Y : Nat} {V : World} (h : SD w c C f A n A' d B L B' Y V) : Below w.heap.size w V := h.1.1
theorem SD.rb {w : World} {c : C3} {C : Nat} {f : C3} {A : Option Addr} {n : Nat} {A' : Option Addr} {d : Nat} {B : Option Addr} {L : Nat} {B' : Option Addr} {Y : Nat} {V : World} (h : SD w c C f A n A' d B L B' Y V) : RB w c C f A n A' d V := h.1
theorem SD.l {w : World} {c : C3} {C : Nat} {f : C3} {A : Option Addr} {n : Nat} {A' : Option Addr} {d : Nat} {B : Option Addr} {L : Nat} {B' : Option Addr} {Y : Nat} {V : World} (h : SD w c C f A n A' d B L B' Y V) : Row V V.heap.size B L (nd W L) := h.2.1
theorem SD.y {w : World} {c : C3} {C : Nat} {f : C3} {A : Option Addr} {n : Nat} {A' : Option Addr} {d : Nat} {B : Option Addr} {L : Nat} {B' : Option Addr} {Y : Nat} {V : World} (h : SD w c C f A n A' d B L B' Y V) : Row V V.heap.size B' Y (nd W Y) := h.2.2
theorem Small_to (m : Nat) (hm : m < 18446744073709551616) (w : World) : Calls Tryz.prog 142 #[.string (natS m)] w fun e w' => e = .returned (.tuple #[.int .u64 (m : Nat), .bool true]) ∧ Below w.heap.size w w' := by
  have h8 := br_lt.2 hm
  have h := Small_c m w (by unfold fits; omega)
  rwa [brN_yes h8, brB_yes h8] at h
set_option maxRecDepth 100000 in
set_option maxHeartbeats 1000000 in
theorem PRnd_hi (F : Value) (Z : Nat) (g : Bool) (n d : Nat) (w : World) (hn : fits n) (hd : fits d) (h0 : n ≠ 0) (hZ : 1023 < tpZ n d)
    (hM : ∀ w, Calls Tryz.prog 18 #[.agg #[.bool g, .string (natS n), .string (natS d)]] w fun e w' => e = .returned (.bool true) ∧ Below w.heap.size w w')
    (hH : ∀ w', Below w.heap.size w w' → Calls Tryz.prog 139 #[.bool g, F] w' fun e w'' => e = .returned (.float .f64 Z) ∧ Below w'.heap.size w' w'') :
    Calls Tryz.prog 89 #[.agg #[.bool g, .string (natS n), .string (natS d)], F] w fun e w' => e = .returned (.tuple #[.float .f64 Z, .int .i64 0]) ∧ Below w.heap.size w w' := by
  have KM := Lib.hid hM
  have KH := Lib.hid hH
  clear hM hH
  have T0 := BL.start1 w (.bool g) (.string (natS n)) (.string (natS d)) 24
  have KO := Lib.hid (fun w => Popen_c g n d w hn hd)
  have e1 := natS_full h0
  have e2 := natS_full2 h0
  have KT : Hid (∀ (A A' : Option Addr) (c c' : Nat) (W' : World), Row W' W'.heap.size A n (nd W n) → Row W' W'.heap.size A' d (nd W d) → Calls Tryz.prog 138 #[.agg #[.bool g, .slice A (nd W n) c, .slice A' (nd W d) c']] W' fun e w' => e = .returned (.int .i64 (tpZ n d)) ∧ Below W'.heap.size W' w') := Lib.hid fun A A' c c' W' r1 r2 => Ftop_c g n d A A' c c' W' hn hd r1 r2
  have HN := Lib.hid hn
  have HD := Lib.hid hd
  have H0 := Lib.hid h0
  clear hn hd h0
  generalize tpZ n d = T at *
  go_enter Tryz.func89, Tryz.ntmps89
  go_upto_region 5 with (first | (go_at_call 18; (with_reducible refine (KM.out _).mono ?_); rintro ee w1 ⟨rfl, hb⟩; replace T0 := T0.step hb; obtain ⟨p0, p1, p2, p3, p4, p5, p6⟩ := T0.box0; clear hb))
  go_upto_region 6 with (first | (go_at_call 81; (with_reducible refine (KO.out _).mono ?_); rintro ee wa ⟨A1, c1, A2, c2, rfl, hc1, hc2, hr1, hr2, hb1⟩; replace T0 := T0.step hb1; clear p0 p1 p2 p3 p4 p5 p6; obtain ⟨p0, p1, p2, p3, p4, p5, p6⟩ := T0.box0))
  have TR := RB.of T0 (.bool g) (.slice A1 (nd W n) c1) (.slice A2 (nd W d) c2) 77 hr1 hr2
  clear T0 p0 p1 p2 p3 p4 p5 p6 hr1 hr2 hb1 hc1 hc2 KO
  revert TR
  generalize wa.heap.size = C
  generalize wa.alloc _ = wb
  intro TR
  obtain ⟨q0, q1, q2, q3, q4, q5, q6⟩ := TR.b1.facts
  clear q4 q5 q6
  have q1 := q1
  go_wp2_with (first
    | (go_at_call 138; (with_reducible refine (KT.out _ _ _ _ _ TR.r0 TR.r1).mono ?_); rintro ee wc ⟨rfl, hb⟩; replace TR := TR.step hb; clear hb q0 q1 q2 q3; obtain ⟨q0, q1, q2, q3, q4, q5, q6⟩ := TR.b0.facts)
    | (go_at_call 139; (with_reducible refine (KH.out _ TR.low).mono ?_); rintro ee wd ⟨rfl, hb⟩; replace TR := TR.step hb; clear hb))
  go_ret2
  exact ⟨rfl, TR.low⟩
set_option maxRecDepth 100000 in
set_option maxHeartbeats 1000000 in
theorem PRnd_lo (F : Value) (Z : Nat) (g : Bool) (n d : Nat) (w : World) (hn : fits n) (hd : fits d) (h0 : n ≠ 0) (hZ : tpZ n d < -1075) (hZ2 : -1000000 ≤ tpZ n d)
    (hM : ∀ w, Calls Tryz.prog 18 #[.agg #[.bool g, .string (natS n), .string (natS d)]] w fun e w' => e = .returned (.bool true) ∧ Below w.heap.size w w')
    (hH : ∀ w', Below w.heap.size w w' → Calls Tryz.prog 140 #[.bool g, .int .u64 0, .int .i64 (-1074), .int .u8 1, F] w' fun e w'' => e = .returned (.float .f64 Z) ∧ Below w'.heap.size w' w'') :
    Calls Tryz.prog 89 #[.agg #[.bool g, .string (natS n), .string (natS d)], F] w fun e w' => e = .returned (.tuple #[.float .f64 Z, .int .i64 0]) ∧ Below w.heap.size w w' := by
  have KM := Lib.hid hM
  have KH := Lib.hid hH
  clear hM hH
  have T0 := BL.start1 w (.bool g) (.string (natS n)) (.string (natS d)) 24
  have KO := Lib.hid (fun w => Popen_c g n d w hn hd)
  have e1 := natS_full h0
  have e2 := natS_full2 h0
  have KT : Hid (∀ (A A' : Option Addr) (c c' : Nat) (W' : World), Row W' W'.heap.size A n (nd W n) → Row W' W'.heap.size A' d (nd W d) → Calls Tryz.prog 138 #[.agg #[.bool g, .slice A (nd W n) c, .slice A' (nd W d) c']] W' fun e w' => e = .returned (.int .i64 (tpZ n d)) ∧ Below W'.heap.size W' w') := Lib.hid fun A A' c c' W' r1 r2 => Ftop_c g n d A A' c c' W' hn hd r1 r2
  have HN := Lib.hid hn
  have HD := Lib.hid hd
  have H0 := Lib.hid h0
  clear hn hd h0
  generalize tpZ n d = T at *
  go_enter Tryz.func89, Tryz.ntmps89
  go_upto_region 5 with (first | (go_at_call 18; (with_reducible refine (KM.out _).mono ?_); rintro ee w1 ⟨rfl, hb⟩; replace T0 := T0.step hb; obtain ⟨p0, p1, p2, p3, p4, p5, p6⟩ := T0.box0; clear hb))
  go_upto_region 6 with (first | (go_at_call 81; (with_reducible refine (KO.out _).mono ?_); rintro ee wa ⟨A1, c1, A2, c2, rfl, hc1, hc2, hr1, hr2, hb1⟩; replace T0 := T0.step hb1; clear p0 p1 p2 p3 p4 p5 p6; obtain ⟨p0, p1, p2, p3, p4, p5, p6⟩ := T0.box0))
  have TR := RB.of T0 (.bool g) (.slice A1 (nd W n) c1) (.slice A2 (nd W d) c2) 77 hr1 hr2
  clear T0 p0 p1 p2 p3 p4 p5 p6 hr1 hr2 hb1 hc1 hc2 KO
  revert TR
  generalize wa.heap.size = C
  generalize wa.alloc _ = wb
  intro TR
  obtain ⟨q0, q1, q2, q3, q4, q5, q6⟩ := TR.b1.facts
  clear q4 q5 q6
  have q1 := q1
  have hZ3 : ¬ 1023 < T := by omega
  have KL : Hid (∀ W', Calls Tryz.prog 141 #[.int .i64 T] W' fun e w' => e = .returned (.int .i64 (-1074)) ∧ Below W'.heap.size W' w') := Lib.hid fun W' => by
    have h := RLeast_c T W' hZ2 (by omega)
    rwa [show max (T - 52) (-1074) = -1074 by omega] at h
  clear hZ2
  go_upto_region 10 with (first
    | (go_at_call 138; (with_reducible refine (KT.out _ _ _ _ _ TR.r0 TR.r1).mono ?_); rintro ee wc ⟨rfl, hb⟩; replace TR := TR.step hb; clear hb q0 q1 q2 q3; obtain ⟨q0, q1, q2, q3, q4, q5, q6⟩ := TR.b0.facts))
  have L0 : ∀ U, RB w (.bool g, .string (natS n), .string (natS d)) C (.bool g, .slice A1 (nd W n) c1, .slice A2 (nd W d) c2) A1 n A2 d U → U.cell? ⟨w.heap.size, 0, none⟩ = some (.bool g) := fun U hU => hU.b0.facts.2.1
  clear q0 q1 q2 q3 q4 q5 q6
  go_region_held3 (RB w (.bool g, .string (natS n), .string (natS d)) C (.bool g, .slice A1 (nd W n) c1, .slice A2 (nd W d) c2) A1 n A2 d) (first | assumption | exact RB.step (by assumption) (by assumption) | exact RB.drew (by assumption) | exact RB.drawn (by assumption) _)
    (first
      | (go_at_call 141; (with_reducible refine (KL.out _).mono ?_); rintro ee wd ⟨rfl, hb⟩)
      | (go_at_call 140; (with_reducible refine (KH.out _ (RB.low (by assumption))).mono ?_); rintro ee wd ⟨rfl, hb2⟩))
  all_goals
    rename_i hHeld
    have HF := Lib.hid hHeld.low
    clear hHeld L0
    go_wp2_with fail
    go_ret2
    exact ⟨rfl, HF.out⟩
set_option maxRecDepth 100000 in
set_option maxHeartbeats 2000000 in
theorem PRnd_mid (F : Value) (Z : Nat) (g : Bool) (n d : Nat) (w : World) (hn : fits n) (hd : fits d) (h0 : n ≠ 0) (hd0 : d ≠ 0) (hZ : tpZ n d ≤ 1023) (hZ2 : -1075 ≤ tpZ n d)
    (hM : ∀ w, Calls Tryz.prog 18 #[.agg #[.bool g, .string (natS n), .string (natS d)]] w fun e w' => e = .returned (.bool true) ∧ Below w.heap.size w w')
    (hH : ∀ w', Below w.heap.size w w' → Calls Tryz.prog 140 #[.bool g, .int .u64 ((rMq n d (rqZ n d) : Nat) : Int), .int .i64 (rqZ n d), .int .u8 (rsW (rLq n d (rqZ n d)) (rY d (rqZ n d))), F] w' fun e w'' => e = .returned (.float .f64 Z) ∧ Below w'.heap.size w' w'') :
    Calls Tryz.prog 89 #[.agg #[.bool g, .string (natS n), .string (natS d)], F] w fun e w' => e = .returned (.tuple #[.float .f64 Z, .int .i64 0]) ∧ Below w.heap.size w w' := by
  have KM := Lib.hid hM
  obtain ⟨q, hq⟩ : ∃ q, q = rqZ n d := ⟨_, rfl⟩
  rw [← hq] at hH
  have hM53 := rMq_lt h0 hd0
  rw [← hq] at hM53
  have hqT : max (tpZ n d - 52) (-1074) = q := by rw [hq]; rfl
  obtain ⟨k1, hk1⟩ : ∃ k : Nat, (k : Int) = max (-q) 0 := ⟨(max (-q) 0).toNat, by omega⟩
  obtain ⟨k2, hk2⟩ : ∃ k : Nat, (k : Int) = max q 0 := ⟨(max q 0).toNat, by omega⟩
  have er1 : rk1 q = k1 := by unfold rk1; omega
  have er2 : rk2 q = k2 := by unfold rk2; omega
  have hk1b : k1 ≤ 131072 := by omega
  have hk2b : k2 ≤ 131072 := by omega
  have z1 := fits_words hn
  have z2 := fits_words hd
  obtain ⟨X, hX⟩ : ∃ X, X = rX n q := ⟨_, rfl⟩
  obtain ⟨Y, hY⟩ : ∃ Y, Y = rY d q := ⟨_, rfl⟩
  obtain ⟨M, hMe⟩ : ∃ M, M = rMq n d q := ⟨_, rfl⟩
  obtain ⟨L, hL⟩ : ∃ L, L = rLq n d q := ⟨_, rfl⟩
  have hX2 : n * 2 ^ k1 = X := by rw [hX]; unfold rX; rw [er1]
  have hY2 : d * 2 ^ k2 = Y := by rw [hY]; unfold rY; rw [er2]
  have hXb : nd W X ≤ 10000 := by rw [← hX2]; exact nd_shl (by omega) hk1b
  have hYb : nd W Y ≤ 10000 := by rw [← hY2]; exact nd_shl (by omega) hk2b
  have hY0 : Y ≠ 0 := by rw [hY]; exact rY_pos hd0 q
  have hMX : M = X / Y := by rw [hMe, hX, hY]; rfl
  have hLX : L = X % Y := by rw [hL, hX, hY]; rfl
  rw [← hMe, ← hL, ← hY] at hH
  rw [← hMe] at hM53
  have hLb : nd W L ≤ 10000 := by rw [hLX]; exact Nat.le_trans (nd_mono W2 (Nat.le_of_lt (Nat.mod_lt _ (Nat.pos_of_ne_zero hY0)))) hYb
  have hMb : nd W M ≤ 10000 := by rw [hMX]; exact Nat.le_trans (nd_mono W2 (Nat.div_le_self _ _)) hXb
  have KL : Hid (∀ W', Calls Tryz.prog 141 #[.int .i64 (tpZ n d)] W' fun e w' => e = .returned (.int .i64 q) ∧ Below W'.heap.size W' w') := Lib.hid fun W' => by
    have h := RLeast_c (tpZ n d) W' (by omega) (by omega)
    rwa [hqT] at h
  have KS1 : Hid (∀ (A : Option Addr) (c : Nat) (W' : World), Row W' W'.heap.size A n (nd W n) → Calls Tryz.prog 118 #[.slice A (nd W n) c, .int .i64 (k1 : Nat)] W' (NumPost X W')) := Lib.hid fun A c W' hr => by
    rw [← hX2]; exact Shl_c A c n k1 W'.heap.size W' (by omega) hr (Nat.le_refl _)
  have KS2 : Hid (∀ (A : Option Addr) (c : Nat) (W' : World), Row W' W'.heap.size A d (nd W d) → Calls Tryz.prog 118 #[.slice A (nd W d) c, .int .i64 (k2 : Nat)] W' (NumPost Y W')) := Lib.hid fun A c W' hr => by
    rw [← hY2]; exact Shl_c A c d k2 W'.heap.size W' (by omega) hr (Nat.le_refl _)
  have KD : Hid (∀ (A A' : Option Addr) (c c' : Nat) (W' : World), Row W' W'.heap.size A X (nd W X) → Row W' W'.heap.size A' Y (nd W Y) → Calls Tryz.prog 112 #[.slice A (nd W X) c, .slice A' (nd W Y) c'] W' (DivPost M L W')) := Lib.hid fun A A' c c' W' r r' => by
    rw [hMX, hLX]; exact Div_all A A' c c' X Y W' hY0 (by omega) (by omega) r r'
  have KB : Hid (∀ (A : Option Addr) (c : Nat) (W' : World), Row W' W'.heap.size A M (nd W M) → Calls Tryz.prog 114 #[.slice A (nd W M) c] W' (fun e w' => e = .returned (.string (natS M)) ∧ Below W'.heap.size W' w')) := Lib.hid fun A c W' hr => Bytes_c A c M W'.heap.size W' (by omega) hr (Nat.le_refl _)
  have KSm := Lib.hid fun w => Small_to M (by omega) w
  have KR : Hid (∀ (A A' : Option Addr) (c c' : Nat) (W' : World), Row W' W'.heap.size A L (nd W L) → Row W' W'.heap.size A' Y (nd W Y) → Calls Tryz.prog 143 #[.slice A (nd W L) c, .slice A' (nd W Y) c'] W' fun e w' => e = .returned (.int .u8 (rsW L Y)) ∧ Below W'.heap.size W' w') := Lib.hid fun A A' c c' W' r r' => Prest_c L Y A A' c c' W' (by omega) (by omega) r r'
  have KH := Lib.hid hH
  have hZ3 : ¬ 1023 < tpZ n d := by omega
  have hZ4 : ¬ tpZ n d < -1075 := by omega
  have hw2 : IntKind.i64.wrap (-q) = -q := IntWalk.i64_in _ ⟨by omega, by omega⟩
  have hm1 : max (-q) 0 = (k1 : Int) := hk1.symm
  have hm2 : max 0 (-q) = (k1 : Int) := by omega
  have hm3 : max q 0 = (k2 : Int) := hk2.symm
  have hm4 : max 0 q = (k2 : Int) := by omega
  clear hM hH hM53 hk1 hk2 er1 er2 hk1b hk2b z1 z2 hX hY hMe hL hX2 hY2 hXb hYb hY0 hMX hLX hLb hMb hZ hZ2 hqT hq
  have T0 := BL.start1 w (.bool g) (.string (natS n)) (.string (natS d)) 24
  have KO := Lib.hid (fun w => Popen_c g n d w hn hd)
  have e1 := natS_full h0
  have e2 := natS_full2 h0
  have KT : Hid (∀ (A A' : Option Addr) (c c' : Nat) (W' : World), Row W' W'.heap.size A n (nd W n) → Row W' W'.heap.size A' d (nd W d) → Calls Tryz.prog 138 #[.agg #[.bool g, .slice A (nd W n) c, .slice A' (nd W d) c']] W' fun e w' => e = .returned (.int .i64 (tpZ n d)) ∧ Below W'.heap.size W' w') := Lib.hid fun A A' c c' W' r1 r2 => Ftop_c g n d A A' c c' W' hn hd r1 r2
  have HN := Lib.hid hn
  have HD := Lib.hid hd
  have H0 := Lib.hid h0
  clear hn hd h0
  generalize tpZ n d = T at *
  generalize rsW L Y = r at *
  go_enter Tryz.func89, Tryz.ntmps89
  go_upto_region 5 with (first | (go_at_call 18; (with_reducible refine (KM.out _).mono ?_); rintro ee w1 ⟨rfl, hb⟩; replace T0 := T0.step hb; obtain ⟨p0, p1, p2, p3, p4, p5, p6⟩ := T0.box0; clear hb))
  go_upto_region 6 with (first | (go_at_call 81; (with_reducible refine (KO.out _).mono ?_); rintro ee wa ⟨A1, c1, A2, c2, rfl, hc1, hc2, hr1, hr2, hb1⟩; replace T0 := T0.step hb1; clear p0 p1 p2 p3 p4 p5 p6; obtain ⟨p0, p1, p2, p3, p4, p5, p6⟩ := T0.box0))
  have TR := RB.of T0 (.bool g) (.slice A1 (nd W n) c1) (.slice A2 (nd W d) c2) 77 hr1 hr2
  clear T0 p0 p1 p2 p3 p4 p5 p6 hr1 hr2 hb1 hc1 hc2 KO
  revert TR
  generalize wa.heap.size = C
  generalize wa.alloc _ = wb
  intro TR
  obtain ⟨q0, q1, q2, q3, q4, q5, q6⟩ := TR.b1.facts
  clear q4 q5 q6
  have q1 := q1
  go_upto_region 12 with (first
    | (go_at_call 138; (with_reducible refine (KT.out _ _ _ _ _ TR.r0 TR.r1).mono ?_); rintro ee wc ⟨rfl, hb⟩; replace TR := TR.step hb; clear hb q0 q1 q2 q3)
    | (go_at_call 141; (with_reducible refine (KL.out _).mono ?_); rintro ee wd ⟨rfl, hb⟩; replace TR := TR.step hb; clear hb; obtain ⟨q0, q1, q2, q3, q4, q5, q6⟩ := TR.b1.facts))
  clear hZ3 hZ4
  go_upto_region 13 with (first
    | (go_at_call 118; (with_reducible refine (KS2.out _ _ _ TR.r1).mono ?_); rintro ee we hp; obtain ⟨A3, c3, rfl, hc3, hr3, hb⟩ := hp.get; clear hp; replace TR := TR.step hb; clear hb q0 q1 q2 q3 q4 q5 q6; obtain ⟨q0, q1, q2, q3, q4, q5, q6⟩ := TR.b1.facts))
  go_upto_region 14 with (first
    | (go_at_call 118; (with_reducible refine (KS1.out _ _ _ TR.r0).mono ?_); rintro ee wf hp; obtain ⟨A4, c4, rfl, hc4, hr4, hb⟩ := hp.get; clear hp; replace TR := TR.step hb; have hr3' := (hr3.below hb).more hb.size; clear hb hr3 q0 q1 q2 q3 q4 q5 q6)
    | (go_at_call 112; (with_reducible refine (KD.out _ _ _ _ _ hr4 hr3').mono ?_); rintro ee wg hp; obtain ⟨A5, c5, A6, c6, rfl, hc5, hc6, hr5, hr6, hb⟩ := hp; replace TR := TR.step hb; have hr3 := (hr3'.below hb).more hb.size; clear hb hr3' hr4))
  go_upto_region 15 with (first
    | (go_at_call 114; (with_reducible refine (KB.out _ _ _ hr5).mono ?_); rintro ee wh ⟨rfl, hb⟩; replace TR := TR.step hb; have hr3' := (hr3.below hb).more hb.size; have hr6' := (hr6.below hb).more hb.size; clear hb hr3 hr5 hr6)
    | (go_at_call 142; (with_reducible refine (KSm.out _).mono ?_); rintro ee wi ⟨rfl, hb⟩; replace TR := TR.step hb; have hr3 := (hr3'.below hb).more hb.size; have hr6 := (hr6'.below hb).more hb.size; clear hb hr3' hr6'))
  have TS : SD w (.bool g, .string (natS n), .string (natS d)) C (.bool g, .slice A1 (nd W n) c1, .slice A2 (nd W d) c2) A1 n A2 d A6 L A3 Y _ := ⟨TR, hr6, hr3⟩
  have L0 : ∀ U, SD w (.bool g, .string (natS n), .string (natS d)) C (.bool g, .slice A1 (nd W n) c1, .slice A2 (nd W d) c2) A1 n A2 d A6 L A3 Y U → U.cell? ⟨w.heap.size, 0, none⟩ = some (.bool g) := fun U hU => hU.rb.b0.facts.2.1
  clear TR hr6 hr3 KS1 KS2 KD KB KSm KL KT
  go_region_held3 (SD w (.bool g, .string (natS n), .string (natS d)) C (.bool g, .slice A1 (nd W n) c1, .slice A2 (nd W d) c2) A1 n A2 d A6 L A3 Y) (first | assumption | exact SD.step (by assumption) (by assumption) | exact SD.drew (by assumption) | exact SD.drawn (by assumption) _)
    (first
      | (go_at_call 143; (with_reducible refine (KR.out _ _ _ _ _ (SD.l (by assumption)) (SD.y (by assumption))).mono ?_); rintro ee wd ⟨rfl, hb⟩)
      | (go_at_call 140; (with_reducible refine (KH.out _ (SD.low (by assumption))).mono ?_); rintro ee wd ⟨rfl, hb2⟩))
  all_goals
    rename_i hHeld
    have HF := Lib.hid hHeld.low
    clear hHeld L0
    go_wp2_with fail
    go_ret2
    exact ⟨rfl, HF.out⟩
end Go.Proofs.YtajcapliokblfaaGreatDoor
