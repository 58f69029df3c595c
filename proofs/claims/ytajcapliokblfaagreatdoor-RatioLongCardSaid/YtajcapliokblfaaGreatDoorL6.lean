/- Texts put together: P52 P53 P54 P55 P56 P57 P58 P59 P60 P61 P64 P29 P30 P67 P68 Post. -/
import Derived.Test.YtajcapliokblfaaGreatDoorL5
import Derived.WalkMore
import Derived.Test.YtajcapliokblfaaGreatDoorL3
import Derived.Test.YtajcapliokblfaaGreatDoorL2
import Derived.Test.YtajcapliokblfaaGreatDoorL1
import Derived.Test.YtajcapliokblfaaGreatDoorL4
import Derived.Below
import Derived.ChangeSame
set_option linter.unusedSimpArgs false
set_option linter.unusedVariables false
namespace Go.Proofs.YtajcapliokblfaaGreatDoor
open Go Go.RowKit Nt
def Bx5 (W : World) (B : Nat) (a b c d e : Value) : Prop := ∃ T : TypeId, Blk W B T #[a, b, c, d, e]
theorem Bx5.facts {W : World} {B : Nat} {a b c d e : Value} (h : Bx5 W B a b c d e) : B < W.heap.size ∧ (W.cell? ⟨B, 0, none⟩ = some a ∧ W.cell? ⟨B, 1, none⟩ = some b ∧ W.cell? ⟨B, 2, none⟩ = some c ∧ W.cell? ⟨B, 3, none⟩ = some d ∧ W.cell? ⟨B, 4, none⟩ = some e) ∧ W.frozen? ⟨B, 0, none⟩ = false ∧ W.frozen? ⟨B, 1, none⟩ = false ∧ W.frozen? ⟨B, 2, none⟩ = false ∧ W.frozen? ⟨B, 3, none⟩ = false ∧ W.frozen? ⟨B, 4, none⟩ = false := by
  obtain ⟨T, h⟩ := h
  exact ⟨h.lt, ⟨by rw [h.cell]; rfl, by rw [h.cell]; rfl, by rw [h.cell]; rfl, by rw [h.cell]; rfl, by rw [h.cell]; rfl⟩, h.frozen 0, h.frozen 1, h.frozen 2, h.frozen 3, h.frozen 4⟩
theorem Bx5.step {W W' : World} {B : Nat} {a b c d e : Value} (h : Bx5 W B a b c d e) (hb : Below W.heap.size W W') : Bx5 W' B a b c d e := by
  obtain ⟨T, h⟩ := h; exact ⟨T, h.below hb h.lt⟩
theorem Bx5.new (w : World) (a b c d e : Value) (T : TypeId) : Bx5 (w.alloc (.cells #[a, b, c, d, e] T)) w.heap.size a b c d e := ⟨T, Blk.new w _ _⟩
theorem Bx5.p0 {W : World} {B : Nat} {a b c d e : Value} (h : Bx5 W B a b c d e) (x : Value) : Bx5 (W.setCell ⟨B, 0, none⟩ x) B x b c d e := by
  obtain ⟨T, h⟩ := h; exact ⟨T, by simpa using h.set_ 0 x⟩
theorem Bx5.p1 {W : World} {B : Nat} {a b c d e : Value} (h : Bx5 W B a b c d e) (x : Value) : Bx5 (W.setCell ⟨B, 1, none⟩ x) B a x c d e := by
  obtain ⟨T, h⟩ := h; exact ⟨T, by simpa using h.set_ 1 x⟩
theorem Bx5.p2 {W : World} {B : Nat} {a b c d e : Value} (h : Bx5 W B a b c d e) (x : Value) : Bx5 (W.setCell ⟨B, 2, none⟩ x) B a b x d e := by
  obtain ⟨T, h⟩ := h; exact ⟨T, by simpa using h.set_ 2 x⟩
theorem Bx5.p3 {W : World} {B : Nat} {a b c d e : Value} (h : Bx5 W B a b c d e) (x : Value) : Bx5 (W.setCell ⟨B, 3, none⟩ x) B a b c x e := by
  obtain ⟨T, h⟩ := h; exact ⟨T, by simpa using h.set_ 3 x⟩
theorem Bx5.p4 {W : World} {B : Nat} {a b c d e : Value} (h : Bx5 W B a b c d e) (x : Value) : Bx5 (W.setCell ⟨B, 4, none⟩ x) B a b c d x := by
  obtain ⟨T, h⟩ := h; exact ⟨T, by simpa using h.set_ 4 x⟩
def DB (w : World) (g l : Bool) (dg pw : ByteArray) (bh : Int) (W : World) : Prop := Below w.heap.size w W ∧ Bx5 W w.heap.size (.bool g) (.bool l) (.string dg) (.string pw) (.int .i64 bh)
theorem DB.low {w : World} {g l : Bool} {dg pw : ByteArray} {bh : Int} {W : World} (h : DB w g l dg pw bh W) : Below w.heap.size w W := h.1
theorem DB.box {w : World} {g l : Bool} {dg pw : ByteArray} {bh : Int} {W : World} (h : DB w g l dg pw bh W) : Bx5 W w.heap.size (.bool g) (.bool l) (.string dg) (.string pw) (.int .i64 bh) := h.2
theorem DB.step {w : World} {g l : Bool} {dg pw : ByteArray} {bh : Int} {W W' : World} (h : DB w g l dg pw bh W) (hb : Below W.heap.size W W') : DB w g l dg pw bh W' := ⟨below_chain h.1 hb, h.2.step hb⟩
theorem DB.q0 {w : World} {g l : Bool} {dg pw : ByteArray} {bh : Int} {W : World} (h : DB w g l dg pw bh W) (x : Bool) : DB w x l dg pw bh (W.setCell ⟨w.heap.size, 0, none⟩ (.bool x)) := ⟨h.1.setCell (p := ⟨w.heap.size, 0, none⟩) (Nat.le_refl _) _, h.2.p0 _⟩
theorem DB.q1 {w : World} {g l : Bool} {dg pw : ByteArray} {bh : Int} {W : World} (h : DB w g l dg pw bh W) (x : Bool) : DB w g x dg pw bh (W.setCell ⟨w.heap.size, 1, none⟩ (.bool x)) := ⟨h.1.setCell (p := ⟨w.heap.size, 1, none⟩) (Nat.le_refl _) _, h.2.p1 _⟩
theorem DB.q2 {w : World} {g l : Bool} {dg pw : ByteArray} {bh : Int} {W : World} (h : DB w g l dg pw bh W) (x : ByteArray) : DB w g l x pw bh (W.setCell ⟨w.heap.size, 2, none⟩ (.string x)) := ⟨h.1.setCell (p := ⟨w.heap.size, 2, none⟩) (Nat.le_refl _) _, h.2.p2 _⟩
theorem DB.q3 {w : World} {g l : Bool} {dg pw : ByteArray} {bh : Int} {W : World} (h : DB w g l dg pw bh W) (x : ByteArray) : DB w g l dg x bh (W.setCell ⟨w.heap.size, 3, none⟩ (.string x)) := ⟨h.1.setCell (p := ⟨w.heap.size, 3, none⟩) (Nat.le_refl _) _, h.2.p3 _⟩
theorem DB.q4 {w : World} {g l : Bool} {dg pw : ByteArray} {bh : Int} {W : World} (h : DB w g l dg pw bh W) (x : Int) : DB w g l dg pw x (W.setCell ⟨w.heap.size, 4, none⟩ (.int .i64 x)) := ⟨h.1.setCell (p := ⟨w.heap.size, 4, none⟩) (Nat.le_refl _) _, h.2.p4 _⟩
set_option maxRecDepth 100000 in
theorem PisDigit_c (c : UInt8) (w : World) : Calls Tryz.prog 154 #[.int .u8 (c.toNat : Int)] w fun e w' => e = .returned (.bool (isDgB c)) ∧ w = w' := by
  by_cases h1 : 48 ≤ c.toNat <;> by_cases h2 : c.toNat ≤ 57
  all_goals
    have e : isDgB c = (decide (48 ≤ c.toNat) && decide (c.toNat ≤ 57)) := by unfold isDgB; simp
    have q1 : decide ((48 : Int) ≤ (c.toNat : Int)) = decide (48 ≤ c.toNat) := by rw [Bool.eq_iff_iff, decide_eq_true_iff, decide_eq_true_iff]; omega
    have q2 : decide ((c.toNat : Int) ≤ 57) = decide (c.toNat ≤ 57) := by rw [Bool.eq_iff_iff, decide_eq_true_iff, decide_eq_true_iff]; omega
    first | rw [decide_eq_true h1] at e q1 | rw [decide_eq_false h1] at e q1
    first | rw [decide_eq_true h2] at e q2 | rw [decide_eq_false h2] at e q2
    rw [e]
    have n1 : ((48 : Int) ≤ (c.toNat : Int)) = (48 ≤ c.toNat) := by rw [eq_iff_iff]; omega
    clear h1 h2 e n1
    go_enter Tryz.func154, Tryz.ntmps154
    go_wp2
    go_ret
    exact ⟨by first | rfl | simp, rfl⟩
def FrS (w : World) (s0 : ByteArray) (k f : Int) (a : Act) : Prop := a.tmps.size = 116 ∧ a.defers = [] ∧ a.tmps[0]? = some (.string s0) ∧ a.tmps[2]? = some (.pointer (some ⟨w.heap.size, 0, none⟩)) ∧ a.tmps[3]? = some (.bool false) ∧ a.tmps[4]? = some (.int .i64 k) ∧ a.tmps[5]? = some (.int .i64 f)
theorem arr_range {α : Type} (A : Array α) (d : α) (n : Nat) (h : A.size = n) : A = ((List.range n).map fun i => A.getD i d).toArray := by
  subst h
  apply Array.ext
  · simp
  · intro i h1 h2
    simp [h1]
set_option maxRecDepth 10000 in
theorem FrS.ex {w : World} {s0 : ByteArray} {k f : Int} {a : Act} (h : FrS w s0 k f a) : ∃ U : Nat → Value, a = { tmps := #[U 0, U 1, U 2, U 3, U 4, U 5, U 6, U 7, U 8, U 9, U 10, U 11, U 12, U 13, U 14, U 15, U 16, U 17, U 18, U 19, U 20, U 21, U 22, U 23, U 24, U 25, U 26, U 27, U 28, U 29, U 30, U 31, U 32, U 33, U 34, U 35, U 36, U 37, U 38, U 39, U 40, U 41, U 42, U 43, U 44, U 45, U 46, U 47, U 48, U 49, U 50, U 51, U 52, U 53, U 54, U 55, U 56, U 57, U 58, U 59, U 60, U 61, U 62, U 63, U 64, U 65, U 66, U 67, U 68, U 69, U 70, U 71, U 72, U 73, U 74, U 75, U 76, U 77, U 78, U 79, U 80, U 81, U 82, U 83, U 84, U 85, U 86, U 87, U 88, U 89, U 90, U 91, U 92, U 93, U 94, U 95, U 96, U 97, U 98, U 99, U 100, U 101, U 102, U 103, U 104, U 105, U 106, U 107, U 108, U 109, U 110, U 111, U 112, U 113, U 114, U 115], defers := [] } ∧ U 0 = .string s0 ∧ U 2 = .pointer (some ⟨w.heap.size, 0, none⟩) ∧ U 3 = .bool false ∧ U 4 = .int .i64 k ∧ U 5 = .int .i64 f := by
  obtain ⟨h1, h2, p0, p2, p3, p4, p5⟩ := h
  have e := arr_range a.tmps undef 116 h1
  obtain ⟨A, D⟩ := a
  simp only at h1 h2 p0 p2 p3 p4 p5 e
  subst h2
  have g : ∀ {i : Nat} {v : Value}, A[i]? = some v → A.getD i undef = v := fun h => by rw [Array.getD_eq_getD_getElem?, h]; rfl
  refine ⟨fun i => A.getD i undef, ?_, g p0, g p2, g p3, g p4, g p5⟩
  congr 1
def JF (w : World) (s0 u : ByteArray) (g : Bool) (a' : Act) (w' : World) : Prop := ∃ (k : Nat), FrS w s0 (k : Int) (0 : Int) a' ∧ DB w g false ⟨#[]⟩ ⟨#[]⟩ 0 w' ∧ ¬ isAt u 0 48 ∧ k ≤ zN u
def JW (w : World) (s0 u : ByteArray) (g : Bool) (a' : Act) (w' : World) : Prop := ∃ (k : Nat), FrS w s0 (k : Int) (0 : Int) a' ∧ DB w g false ⟨#[]⟩ ⟨#[]⟩ 0 w' ∧ ((k = 1 ∧ isAt u 0 48) ∨ (k = zN u ∧ ¬ isAt u 0 48))
def JP (w : World) (s0 u : ByteArray) (g : Bool) (a' : Act) (w' : World) : Prop := ∃ (k : Nat), FrS w s0 (k : Int) ((zN u + 1 : Nat) : Int) a' ∧ DB w g false (u.extract 0 (zN u)) ⟨#[]⟩ 0 w' ∧ zPt u = true ∧ (0 < zN u ∧ (zN u = 1 ∨ ¬ isAt u 0 48)) ∧ zN u + 1 < k ∧ k ≤ zM u
def JE (w : World) (s0 u : ByteArray) (g : Bool) (a' : Act) (w' : World) : Prop := ∃ (k : Nat) (f : Int) (dg : ByteArray) (bh : Int), FrS w s0 (k : Int) (f : Int) a' ∧ DB w g false dg ⟨#[]⟩ bh w' ∧ ((∃ h : k < u.size, isDgB u[k] = true ∧ ¬ zOk u) ∨ (k = zM u ∧ (0 < zN u ∧ (zN u = 1 ∨ ¬ isAt u 0 48)) ∧ (zPt u = true → zN u + 1 < zM u) ∧ dg = zD u ∧ bh = (zB u : Int)))
def JM (w : World) (s0 u : ByteArray) (g : Bool) (a' : Act) (w' : World) : Prop := ∃ (k : Nat), FrS w s0 (k : Int) ((zJ u : Nat) : Int) a' ∧ DB w g (zL u) (zD u) ⟨#[]⟩ (zB u : Int) w' ∧ zX u = true ∧ (0 < zN u ∧ (zN u = 1 ∨ ¬ isAt u 0 48)) ∧ (zPt u = true → zN u + 1 < zM u) ∧ ¬ isAt u (zJ u) 48 ∧ zJ u < k ∧ k ≤ zE u (zJ u)
def JD (w : World) (s0 u : ByteArray) (g : Bool) (a' : Act) (w' : World) : Prop := ∃ (k : Nat), FrS w s0 (k : Int) ((zJ u : Nat) : Int) a' ∧ DB w g (zL u) (zD u) ⟨#[]⟩ (zB u : Int) w' ∧ zX u = true ∧ zL u = false ∧ (0 < zN u ∧ (zN u = 1 ∨ ¬ isAt u 0 48)) ∧ (zPt u = true → zN u + 1 < zM u) ∧ isAt u (zJ u) 48 ∧ k = zJ u + 1
def JZ (w : World) (s0 u : ByteArray) (g : Bool) (a' : Act) (w' : World) : Prop := ∃ (k : Nat) (f : Int) (l : Bool) (dg pw : ByteArray) (bh : Int), FrS w s0 (k : Int) (f : Int) a' ∧ DB w g l dg pw bh w' ∧ k ≤ u.size ∧ (k = u.size ↔ zOk u) ∧ (zOk u → l = zL u ∧ dg = zD u ∧ pw = zP u ∧ bh = (zB u : Int))
def JS (w : World) (s0 u : ByteArray) (g : Bool) (l : Nat) (a' : Act) (w' : World) : Prop := (l = 1 ∧ JF w s0 u g a' w') ∨ (l = 0 ∧ JW w s0 u g a' w') ∨ (l = 3 ∧ JP w s0 u g a' w') ∨ (l = 2 ∧ JE w s0 u g a' w') ∨ (l = 6 ∧ JM w s0 u g a' w') ∨ (l = 5 ∧ JD w s0 u g a' w') ∨ (l = 4 ∧ JZ w s0 u g a' w')
def rkL (l : Nat) : Nat := if l = 1 then 6 else if l = 0 then 5 else if l = 3 then 4 else if l = 2 then 3 else if l = 6 then 2 else if l = 5 then 1 else 0
def atA (a : Act) : Nat := match a.tmps[4]? with
  | some (Value.int _ q) => q.toNat
  | _ => 0
def muS (u : ByteArray) (l : Nat) (a : Act) : Nat := rkL l * (u.size + 2) + (u.size + 1 - atA a)
structure S0 (s0 u : ByteArray) : Prop where
  sz : s0.size = u.size + 1
  at_ : ∀ k (h : k < u.size) (h' : k < s0.size), s0[k] = u[k]
  end_ : ∀ (h : u.size < s0.size), s0[u.size] = 0
  ext : ∀ i j, j ≤ u.size → s0.extract i j = u.extract i j
theorem s0_of (u : ByteArray) : S0 (u ++ ⟨#[0]⟩) u := by
  have e : (u ++ ⟨#[0]⟩ : ByteArray).data.toList = u.data.toList ++ [0] := by rw [ba_app]
  have hs : (u ++ ⟨#[0]⟩ : ByteArray).size = u.size + 1 := by rw [ByteArray.size_append]; rfl
  refine ⟨hs, fun k h h' => ?_, fun h => ?_, fun i j hj => ?_⟩
  · show (u ++ ⟨#[0]⟩ : ByteArray).data.toList[k]'(by exact h') = u.data.toList[k]'(by exact h)
    simp only [e]
    rw [List.getElem_append_left]
  · show (u ++ ⟨#[0]⟩ : ByteArray).data.toList[u.size]'(by exact h) = 0
    simp only [e]
    rw [List.getElem_append_right (by exact Nat.le_refl _)]
    simp
  · apply ba_eq
    rw [ba_ext, ba_ext, e]
    by_cases hi : i ≤ u.size
    · rw [List.drop_append_of_le_length (by exact hi), List.take_append_of_le_length]
      rw [List.length_drop]; show j - i ≤ u.size - i; omega
    · rw [show j - i = 0 by omega, List.take_zero, List.take_zero]
end Go.Proofs.YtajcapliokblfaaGreatDoor
namespace Go.Proofs.YtajcapliokblfaaGreatDoor
open Go Go.RowKit Nt
noncomputable def scanC : Code := match Tryz.f102.body with
  | some (.seq _ (.scope c)) => c
  | _ => .skip
def ScP (u : ByteArray) (g : Bool) (w : World) (e : Ending) (w' : World) : Prop := (∃ (a b : Bool) (x y : ByteArray) (n : Int) (ok : Bool), e = .returned (.tuple #[.agg #[.bool a, .bool b, .string x, .string y, .int .i64 n], .bool ok]) ∧ (ok = true ↔ zOk u) ∧ (ok = true → a = g ∧ b = zL u ∧ x = zD u ∧ y = zP u ∧ n = (zB u : Int))) ∧ Below w.heap.size w w'
theorem ScP.no {u : ByteArray} {g a b : Bool} {x y : ByteArray} {n : Int} {w : World} {w' : World} (h : ¬ zOk u) (hb : Below w.heap.size w w') : ScP u g w (.returned (.tuple #[.agg #[.bool a, .bool b, .string x, .string y, .int .i64 n], .bool false])) w' := ⟨⟨a, b, x, y, n, false, rfl, ⟨fun c => absurd c Bool.false_ne_true, fun c => absurd c h⟩, fun c => absurd c Bool.false_ne_true⟩, hb⟩
theorem ScP.of {u : ByteArray} {g l : Bool} {dg pw : ByteArray} {bh : Int} {ok : Bool} {w w' : World} (h : ok = true ↔ zOk u) (h2 : zOk u → l = zL u ∧ dg = zD u ∧ pw = zP u ∧ bh = (zB u : Int)) (hb : Below w.heap.size w w') : ScP u g w (.returned (.tuple #[.agg #[.bool g, .bool l, .string dg, .string pw, .int .i64 bh], .bool ok])) w' :=
  ⟨⟨g, l, dg, pw, bh, ok, rfl, h, fun c => ⟨rfl, h2 (h.1 c)⟩⟩, hb⟩
theorem below_put5 {n : Nat} {w W : World} {A : Nat} (hb : Below n w W) (hA : n ≤ A) (a b c d e : Value) : Below n w (((((W.setCell ⟨A, 0, none⟩ a).setCell ⟨A, 1, none⟩ b).setCell ⟨A, 2, none⟩ c).setCell ⟨A, 3, none⟩ d).setCell ⟨A, 4, none⟩ e) :=
  ((((hb.setCell (p := ⟨A, 0, none⟩) hA a).setCell (p := ⟨A, 1, none⟩) hA b).setCell (p := ⟨A, 2, none⟩) hA c).setCell (p := ⟨A, 3, none⟩) hA d).setCell (p := ⟨A, 4, none⟩) hA e
theorem S0.dig {s0 u : ByteArray} (h : S0 s0 u) (i k : Nat) (hi : i ≤ u.size) (h1 : i ≤ k) (h2 : k ≤ zE u i) (h' : k < s0.size) : (k < zE u i → isDgB s0[k] = true ∧ k < u.size) ∧ (k = zE u i → isDgB s0[k] = false) := by
  have hle := zE_le u i hi
  constructor
  · intro h3
    have h4 : k < u.size := by omega
    rw [h.at_ k h4 h']
    exact ⟨zE_in u i k h1 h3 h4, h4⟩
  · intro h3
    by_cases h4 : k < u.size
    · rw [h.at_ k h4 h']
      subst h3
      exact zE_out u i hi h4
    · have h5 : k = u.size := by omega
      subst h5
      rw [h.end_ h']; decide
theorem S0.byte {s0 u : ByteArray} (h : S0 s0 u) (k c : Nat) (hc : c ≠ 0) (hk : k ≤ u.size) (h' : k < s0.size) : (isAt u k c → ((s0[k].toNat : Int) == (c : Int)) = true ∧ k < u.size) ∧ (¬ isAt u k c → ((s0[k].toNat : Int) == (c : Int)) = false) := by
  constructor
  · rintro ⟨h1, h2⟩
    rw [h.at_ k h1 h', h2]; simp [h1]
  · intro h2
    rw [beq_eq_false_iff_ne]
    intro h3
    by_cases h4 : k < u.size
    · rw [h.at_ k h4 h'] at h3
      exact h2 ⟨h4, by omega⟩
    · have h5 : k = u.size := by omega
      subst h5
      rw [h.end_ h'] at h3
      have : (0 : UInt8).toNat = 0 := rfl
      omega
theorem bne_of5 {a b : Int} {c : Bool} (h : (a == b) = c) : (a != b) = !c := by rw [bne, h]
theorem zN_le (u : ByteArray) : zN u ≤ u.size := by unfold zN; exact zE_le u 0 (Nat.zero_le _)
open Classical in
theorem zPt_iff {u : ByteArray} : zPt u = true ↔ isAt u (zN u) 46 := by unfold zPt; exact decide_eq_true_iff
open Classical in
theorem zX_iff {u : ByteArray} : zX u = true ↔ isAt u (zM u) 101 := by unfold zX; exact decide_eq_true_iff
open Classical in
theorem zL_iff {u : ByteArray} : zL u = true ↔ isAt u (zM u) 101 ∧ isAt u (zM u + 1) 45 := by unfold zL; exact decide_eq_true_iff
theorem zM_t {u : ByteArray} (h : zPt u = true) : zM u = zE u (zN u + 1) := by unfold zM; rw [if_pos h]
theorem zM_f {u : ByteArray} (h : ¬ zPt u = true) : zM u = zN u := by unfold zM; rw [if_neg h]
theorem zM_le (u : ByteArray) : zM u ≤ u.size := by
  by_cases h : zPt u = true
  · obtain ⟨h1, _⟩ := zPt_iff.1 h
    rw [zM_t h]; exact zE_le u _ h1
  · rw [zM_f h]; exact zN_le u
theorem zJ_t {u : ByteArray} (h : zL u = true) : zJ u = zM u + 2 := by unfold zJ; rw [if_pos h]
theorem zJ_f {u : ByteArray} (h : ¬ zL u = true) : zJ u = zM u + 1 := by unfold zJ; rw [if_neg h]
theorem zJ_le {u : ByteArray} (h : zX u = true) : zJ u ≤ u.size := by
  obtain ⟨h1, _⟩ := zX_iff.1 h
  by_cases k : zL u = true
  · obtain ⟨_, h2, _⟩ := zL_iff.1 k
    rw [zJ_t k]; omega
  · rw [zJ_f k]; omega
theorem zOk_x {u : ByteArray} (hX : zX u = true) (hH : 0 < zN u ∧ (zN u = 1 ∨ ¬ isAt u 0 48)) (hP : zPt u = true → zN u + 1 < zM u) : zOk u ↔ zJ u < u.size ∧ zE u (zJ u) = u.size ∧ (isAt u (zJ u) 48 → zL u = false ∧ u.size = zJ u + 1) :=
  ⟨fun h => h.2.2.2.2 hX, fun h => ⟨hH.1, hH.2, hP, fun c => absurd hX c, fun _ => h⟩⟩
theorem zOk_n {u : ByteArray} (hX : ¬ zX u = true) (hH : 0 < zN u ∧ (zN u = 1 ∨ ¬ isAt u 0 48)) (hP : zPt u = true → zN u + 1 < zM u) : zM u = u.size ↔ zOk u :=
  ⟨fun h => ⟨hH.1, hH.2, hP, fun _ => h, fun c => absurd c hX⟩, fun h => h.2.2.2.1 hX⟩
theorem zP_t {u : ByteArray} (h : zX u = true) : zP u = u.extract (zJ u) u.size := by unfold zP; rw [if_pos h]
theorem zP_f {u : ByteArray} (h : ¬ zX u = true) : zP u = ⟨#[]⟩ := by unfold zP; rw [if_neg h]
theorem zL_n {u : ByteArray} (h : ¬ zX u = true) : zL u = false := Bool.eq_false_iff.2 fun c => h (zX_iff.2 (zL_iff.1 c).1)
theorem zD_f {u : ByteArray} (h : ¬ zPt u = true) : zD u = u.extract 0 (zN u) ∧ zB u = 0 := by
  unfold zD zB
  rw [if_neg h, if_neg h]
  exact ⟨ba_eq (by rw [ba_app]; exact List.append_nil _), rfl⟩
theorem zD_t {u : ByteArray} (h : zPt u = true) : zD u = u.extract 0 (zN u) ++ u.extract (zN u + 1) (zM u) ∧ zB u = zM u - (zN u + 1) := by
  unfold zD zB
  rw [if_pos h, if_pos h]
  exact ⟨rfl, rfl⟩
theorem ext_full {s : ByteArray} {i j : Nat} (h : i < j) (hj : j ≤ s.size) : ¬ (s.extract i j).toList = [] ∧ (s.extract i j).toList.isEmpty = false ∧ ((s.extract i j).toList == []) = false := by
  have hz : (s.extract i j).size = j - i := by rw [ByteArray.size_extract]; omega
  have h1 : ¬ (s.extract i j).toList = [] := fun c => by
    rw [ba_toList] at c
    have : (s.extract i j).size = 0 := by show (s.extract i j).data.toList.length = 0; rw [c]; rfl
    omega
  exact ⟨h1, by simpa using h1, by simpa using h1⟩
theorem wp_mono5 {P : Program} {c : Code} {Q Q' : Exit → Act → World → Prop} {a : Act} {w : World} (h : ∀ e a w, Q e a w → Q' e a w) (hw : c.wp P Q a w) : c.wp P Q' a w := fun b k cs => by
  obtain ⟨e, a', w', hq, ha⟩ := hw b k cs
  exact ⟨e, a', w', h _ _ _ hq, ha⟩
theorem jumps_mono5 {J : Nat → Act → World → Prop} {μ : Nat → Act → Nat} {n m : Nat} {Q : Exit → Act → World → Prop} (h : n ≤ m) (e : Exit) (a : Act) (w : World) (hq : Exit.jumps (fun l a w => J l a w ∧ μ l a < n) Q e a w) : Exit.jumps (fun l a w => J l a w ∧ μ l a < m) Q e a w := by
  cases e with
  | goto l => exact ⟨hq.1, Nat.lt_of_lt_of_le hq.2 h⟩
  | normal => exact hq
  | exit id => exact hq
  | ret => exact hq
  | panic ch => exact hq
  | outgrown => exact hq
theorem ext_nil {s : ByteArray} (i : Nat) : s.extract i i = ⟨#[]⟩ := ba_eq (by rw [ba_ext, Nat.sub_self]; rfl)
set_option maxRecDepth 100000 in
set_option maxHeartbeats 4000000 in
theorem scan_4 (w : World) (s0 u : ByteArray) (g : Bool) (hS : S0 s0 u) (hz : u.size + 1 ≤ 9223372036854775807) (a : Act) (w' : World) (hJ : JZ w s0 u g a w') : ∃ rest, findLabel scanC 4 = some rest ∧ rest.wp Tryz.prog (Exit.jumps (fun l' a' w'' => JS w s0 u g l' a' w'' ∧ muS u l' a' < muS u 4 a) (bodyPost Tryz.prog Tryz.f102 (ScP u g w))) a w' := by
  refine ⟨_, rfl, ?_⟩
  obtain ⟨k, f, l, dg, pw, bh, hFr, hD, hk, hok, hfl⟩ := hJ
  obtain ⟨U, rfl, U0, U2, U3, U4, U5⟩ := hFr.ex
  rw [U0, U2, U3, U4, U5]
  clear U0 U2 U3 U4 U5 hFr
  obtain ⟨b0, ⟨c0, c1, c2, c3, c4⟩, z0, z1, z2, z3, z4⟩ := hD.box.facts
  have hsz := hS.sz
  generalize hQ : Exit.jumps _ _ = QQ
  have HQ := Lib.hid hQ
  have HD := Lib.hid hD
  have HS := Lib.hid hS
  clear hQ hD hS
  have hw : IntKind.i64.wrap ((s0.size : Int) - 1) = (u.size : Int) := by rw [IntWalk.i64_in _ ⟨by omega, by omega⟩]; omega
  have HO := Lib.hid hok
  have HF := Lib.hid hfl
  by_cases c : k = u.size
  · have q1 : ((k : Int) == (u.size : Int)) = true := by rw [beq_iff_eq]; omega
    have HC := Lib.hid c
    clear hok hfl hsz c hk
    go_wp2
    rw [← HQ.out]
    show bodyPost Tryz.prog Tryz.f102 (ScP u g w) Exit.ret _ _
    refine bodyPost_ret (v := .tuple #[.agg #[.bool g, .bool l, .string dg, .string pw, .int .i64 bh], .bool true]) (by simp [results, Tryz.results102, go_sem, c0, c1, c2, c3, c4, z0, z1, z2, z3, z4]) rfl (ScP.of ⟨fun _ => HO.out.1 HC.out, fun _ => rfl⟩ HF.out (below_put5 HD.out.low (Nat.le_refl _) _ _ _ _ _))
  · have q1 : ((k : Int) == (u.size : Int)) = false := by rw [beq_eq_false_iff_ne]; omega
    have HC := Lib.hid c
    clear hok hfl hsz c hk
    go_wp2
    rw [← HQ.out]
    show bodyPost Tryz.prog Tryz.f102 (ScP u g w) Exit.ret _ _
    refine bodyPost_ret (v := .tuple #[.agg #[.bool g, .bool l, .string dg, .string pw, .int .i64 bh], .bool false]) (by simp [results, Tryz.results102, go_sem, c0, c1, c2, c3, c4, z0, z1, z2, z3, z4]) rfl (ScP.of ⟨fun k => absurd k Bool.false_ne_true, fun k => absurd (HO.out.2 k) HC.out⟩ HF.out (below_put5 HD.out.low (Nat.le_refl _) _ _ _ _ _))
set_option maxRecDepth 100000 in
set_option maxHeartbeats 4000000 in
theorem scan_1 (w : World) (s0 u : ByteArray) (g : Bool) (hS : S0 s0 u) (hz : u.size + 1 ≤ 9223372036854775807) (a : Act) (w' : World) (hJ : JF w s0 u g a w') : ∃ rest, findLabel scanC 1 = some rest ∧ rest.wp Tryz.prog (Exit.jumps (fun l' a' w'' => JS w s0 u g l' a' w'' ∧ muS u l' a' < muS u 1 a) (bodyPost Tryz.prog Tryz.f102 (ScP u g w))) a w' := by
  refine ⟨_, rfl, ?_⟩
  obtain ⟨k, hFr, hD, hn48, hk⟩ := hJ
  obtain ⟨U, rfl, U0, U2, U3, U4, U5⟩ := hFr.ex
  rw [U0, U2, U3, U4, U5]
  clear U0 U2 U3 U4 U5 hFr
  obtain ⟨b0, ⟨c0, c1, c2, c3, c4⟩, z0, z1, z2, z3, z4⟩ := hD.box.facts
  have hsz := hS.sz
  generalize hQ : Exit.jumps _ _ = QQ
  have HQ := Lib.hid hQ
  have HD := Lib.hid hD
  have HS := Lib.hid hS
  clear hQ hD hS
  have hle : zN u ≤ u.size := by unfold zN; exact zE_le u 0 (Nat.zero_le _)
  have hk2 : k < s0.size := by omega
  have hdg := HS.out.dig 0 k (Nat.zero_le _) (Nat.zero_le _) (by unfold zN at hk; exact hk) hk2
  have H4 := Lib.hid hn48
  by_cases c : k < zN u
  · have hd : isDgB s0[k] = true := (hdg.1 (by unfold zN at c; exact c)).1
    clear hdg hn48
    go_wp2_with (first | (go_at_call 154; (with_reducible refine (PisDigit_c _ _).mono ?_); rintro ee w1 ⟨rfl, rfl⟩))
    go_step3
    rw [← HQ.out]
    refine ⟨(Or.inl ⟨rfl, k + 1, ⟨rfl, rfl, rfl, rfl, rfl, rfl, rfl⟩, HD.out, H4.out, by omega⟩), ?_⟩
    first | (simp [muS, rkL, atA]; done) | (simp [muS, rkL, atA]; omega)
  · have hd : isDgB s0[k] = false := hdg.2 (by unfold zN at hk c; omega)
    have hkn : k = zN u := by omega
    have HK := Lib.hid hkn
    clear hdg hn48 hkn
    go_wp2_with (first | (go_at_call 154; (with_reducible refine (PisDigit_c _ _).mono ?_); rintro ee w1 ⟨rfl, rfl⟩))
    go_step3
    rw [← HQ.out]
    refine ⟨(Or.inr (Or.inl ⟨rfl, k, ⟨rfl, rfl, rfl, rfl, rfl, rfl, rfl⟩, HD.out, Or.inr ⟨HK.out, H4.out⟩⟩)), ?_⟩
    first | (simp [muS, rkL, atA]; done) | (simp [muS, rkL, atA]; omega)
set_option maxRecDepth 100000 in
set_option maxHeartbeats 4000000 in
theorem scan_0 (w : World) (s0 u : ByteArray) (g : Bool) (hS : S0 s0 u) (hz : u.size + 1 ≤ 9223372036854775807) (a : Act) (w' : World) (hJ : JW w s0 u g a w') : ∃ rest, findLabel scanC 0 = some rest ∧ rest.wp Tryz.prog (Exit.jumps (fun l' a' w'' => JS w s0 u g l' a' w'' ∧ muS u l' a' < muS u 0 a) (bodyPost Tryz.prog Tryz.f102 (ScP u g w))) a w' := by
  refine ⟨_, rfl, ?_⟩
  obtain ⟨k, hFr, hD, hfacts⟩ := hJ
  obtain ⟨U, rfl, U0, U2, U3, U4, U5⟩ := hFr.ex
  rw [U0, U2, U3, U4, U5]
  clear U0 U2 U3 U4 U5 hFr
  obtain ⟨b0, ⟨c0, c1, c2, c3, c4⟩, z0, z1, z2, z3, z4⟩ := hD.box.facts
  have hsz := hS.sz
  generalize hQ : Exit.jumps _ _ = QQ
  have HQ := Lib.hid hQ
  have HD := Lib.hid hD
  have HS := Lib.hid hS
  clear hQ hD hS
  have hNl := zN_le u
  have hkl : k ≤ u.size := by rcases hfacts with ⟨h, h2, _⟩ | ⟨h, _⟩ <;> omega
  have hk2 : k < s0.size := by omega
  obtain ⟨dg, hdg⟩ : ∃ dg, dg = s0.extract 0 k := ⟨_, rfl⟩
  have hdg2 : dg = u.extract 0 k := hdg.trans (HS.out.ext _ _ hkl)
  have r0 : ∀ w, (Instr.slice 9 (.string s0) none (some (.int .i64 (k : Int))) none).run Tryz.prog w = .ok (.string dg) w := fun w => by
    have h := run_slice_string_h (P := Tryz.prog) w 9 s0 Tryz.underlying9 .i64 (k : Int) (by omega) (by omega)
    rw [Int.toNat_natCast, ← hdg] at h
    exact h
  have h46 := HS.out.byte k 46 (by decide) hkl hk2
  clear hdg
  by_cases ck : k = 0
  · have hno : ¬ zOk u := fun c => by rcases hfacts with ⟨h, _⟩ | ⟨h, _⟩; omega; have := c.1; omega
    have HN := Lib.hid hno
    have q0 : ((k : Int) == 0) = true := by rw [beq_iff_eq]; omega
    clear hno hfacts h46 hdg2 ck
    go_wp2_with (first | (go_at_call 154; (with_reducible refine (PisDigit_c _ _).mono ?_); rintro ee w1 ⟨rfl, rfl⟩))
    obtain ⟨-, ⟨y0, y1, y2, y3, y4⟩, -⟩ := ((((((HD.out.q2 dg).box.p0 (.bool false)).p1 (.bool false)).p2 (.string ⟨#[]⟩)).p3 (.string ⟨#[]⟩)).p4 (.int .i64 0)).facts
    rw [← HQ.out]
    show bodyPost Tryz.prog Tryz.f102 (ScP u g w) Exit.ret _ _
    refine bodyPost_ret (v := .tuple #[.agg #[.bool false, .bool false, .string ⟨#[]⟩, .string ⟨#[]⟩, .int .i64 0], .bool false]) (by simp [results, Tryz.results102, go_sem, y0, y1, y2, y3, y4]) rfl (ScP.no HN.out (below_put5 (HD.out.q2 dg).low (Nat.le_refl _) _ _ _ _ _))
  · have q0 : ((k : Int) == 0) = false := by rw [beq_eq_false_iff_ne]; omega
    have q0p := beq_eq_false_iff_ne.1 q0
    by_cases cb : k = zN u
    · have hH : 0 < zN u ∧ (zN u = 1 ∨ ¬ isAt u 0 48) := ⟨by omega, by rcases hfacts with ⟨h, _⟩ | ⟨_, h⟩; exact Or.inl (by omega); exact Or.inr h⟩
      have HH := Lib.hid hH
      have HK := Lib.hid cb
      have hdgN : dg = u.extract 0 (zN u) := by rw [hdg2, cb]
      by_cases hPt : zPt u = true
      · have hp1 := zPt_iff.1 hPt
        rw [← cb] at hp1
        obtain ⟨q1, hks⟩ := h46.1 hp1
        have q1n := bne_of5 q1
        obtain ⟨f, hf⟩ : ∃ f, f = zN u + 1 := ⟨_, rfl⟩
        have e1 : (k : Int) + 1 = (f : Int) := by omega
        have hf2 : f < s0.size := by omega
        have hdd := HS.out.dig f f (by omega) (Nat.le_refl _) (zE_ge u f) hf2
        have hMt := zM_t hPt
        rw [← hf] at hMt
        have HF := Lib.hid hf
        have HPt := Lib.hid hPt
        have hge := zE_ge u f
        have HS2 := Lib.hid hdgN
        by_cases cz : f < zE u f
        · have hd := (hdd.1 cz).1
          have HZ : Hid (f < zM u) := Lib.hid (by omega)
          clear hfacts h46 hp1 hdd hMt hPt hH cb hdg2 hdgN hge cz hf hks
          go_wp2_with (first | (go_at_call 154; (with_reducible refine (PisDigit_c _ _).mono ?_); rintro ee w1 ⟨rfl, rfl⟩))
          go_step3
          go_wp2_with (first | (go_at_call 154; (with_reducible refine (PisDigit_c _ _).mono ?_); rintro ee w1 ⟨rfl, rfl⟩))
          go_step3
          rw [← HQ.out]
          refine ⟨(Or.inr (Or.inr (Or.inl ⟨rfl, f + 1, (by rw [← HF.out]; exact ⟨rfl, rfl, rfl, rfl, rfl, rfl, rfl⟩), (by rw [← HS2.out]; exact HD.out.q2 dg), HPt.out, HH.out, by have := HF.out; omega, HZ.out⟩))), ?_⟩
          first | (simp [muS, rkL, atA]; done) | (simp [muS, rkL, atA]; omega)
        · have hd := hdd.2 (by omega)
          have hno : ¬ zOk u := fun c => by have := c.2.2.1 hPt; omega
          have HN := Lib.hid hno
          clear hfacts h46 hp1 hdd hMt hPt hH cb hdg2 hdgN hge cz hf hks hno
          go_wp2_with (first | (go_at_call 154; (with_reducible refine (PisDigit_c _ _).mono ?_); rintro ee w1 ⟨rfl, rfl⟩))
          go_step3
          go_wp2_with (first | (go_at_call 154; (with_reducible refine (PisDigit_c _ _).mono ?_); rintro ee w1 ⟨rfl, rfl⟩))
          obtain ⟨-, ⟨y0, y1, y2, y3, y4⟩, -⟩ := (((((((HD.out.q2 dg).q4 0).box.p0 (.bool false)).p1 (.bool false)).p2 (.string ⟨#[]⟩)).p3 (.string ⟨#[]⟩)).p4 (.int .i64 0)).facts
          rw [← HQ.out]
          show bodyPost Tryz.prog Tryz.f102 (ScP u g w) Exit.ret _ _
          refine bodyPost_ret (v := .tuple #[.agg #[.bool false, .bool false, .string ⟨#[]⟩, .string ⟨#[]⟩, .int .i64 0], .bool false]) (by simp [results, Tryz.results102, go_sem, y0, y1, y2, y3, y4]) rfl (ScP.no HN.out (below_put5 ((HD.out.q2 dg).q4 0).low (Nat.le_refl _) _ _ _ _ _))
      · have q1 := h46.2 (fun c => hPt (zPt_iff.2 (by rw [← cb]; exact c)))
        have q1n := bne_of5 q1
        obtain ⟨hD1, hB1⟩ := zD_f hPt
        have hMf := zM_f hPt
        have HP : Hid (k = zM u) := Lib.hid (by omega)
        have HPt := Lib.hid hPt
        have HB := Lib.hid hB1
        have HE := Lib.hid (hdgN.trans hD1.symm)
        clear hfacts h46 hPt hH cb hdg2 hdgN hD1 hB1 hMf
        go_wp2_with (first | (go_at_call 154; (with_reducible refine (PisDigit_c _ _).mono ?_); rintro ee w1 ⟨rfl, rfl⟩))
        go_step3
        rw [← HQ.out]
        refine ⟨(Or.inr (Or.inr (Or.inr (Or.inl ⟨rfl, k, _, _, _, ⟨rfl, rfl, rfl, rfl, rfl, rfl, rfl⟩, (HD.out.q2 dg), Or.inr ⟨HP.out, HH.out, fun c => absurd c HPt.out, HE.out, by rw [HB.out]; rfl⟩⟩)))), ?_⟩
        first | (simp [muS, rkL, atA]; done) | (simp [muS, rkL, atA]; omega)
    · obtain ⟨h1, h48⟩ : k = 1 ∧ isAt u 0 48 := by rcases hfacts with h | ⟨h, _⟩; exact h; exact absurd h cb
      obtain ⟨h49, h50⟩ := h48
      have h1N : 1 ≤ zN u := by
        refine Nat.not_lt.1 fun c => ?_
        have h2 : zE u 0 = 0 := by have := c; unfold zN at this; omega
        have h3 := zE_out u 0 (Nat.zero_le _) (by omega)
        have e : u[zE u 0]'(by omega) = u[0] := by congr 1
        rw [e] at h3
        unfold isDgB at h3
        have := of_decide_eq_false h3
        omega
      have hkz : k < u.size := by omega
      have hdig : isDgB u[k] = true := zE_in u 0 k (Nat.zero_le _) (by unfold zN at cb hNl h1N; omega) hkz
      have hno : ¬ zOk u := fun c => by rcases c.2.1 with h | h; omega; exact h ⟨h49, h50⟩
      have q1 : ((s0[k].toNat : Int) == 46) = false := by
        rw [HS.out.at_ k hkz hk2, beq_eq_false_iff_ne]
        have := of_decide_eq_true hdig
        omega
      have q1n := bne_of5 q1
      have HN : Hid (∃ h : k < u.size, isDgB u[k] = true ∧ ¬ zOk u) := Lib.hid ⟨hkz, hdig, hno⟩
      clear hfacts h46 hdg2 cb h1N hdig hno h50 h49 h1
      go_wp2_with (first | (go_at_call 154; (with_reducible refine (PisDigit_c _ _).mono ?_); rintro ee w1 ⟨rfl, rfl⟩))
      go_step3
      rw [← HQ.out]
      refine ⟨(Or.inr (Or.inr (Or.inr (Or.inl ⟨rfl, k, _, _, _, ⟨rfl, rfl, rfl, rfl, rfl, rfl, rfl⟩, (HD.out.q2 dg), Or.inl HN.out⟩)))), ?_⟩
      first | (simp [muS, rkL, atA]; done) | (simp [muS, rkL, atA]; omega)
set_option maxRecDepth 100000 in
set_option maxHeartbeats 4000000 in
theorem scan_2c (w : World) (s0 u : ByteArray) (g : Bool) (hS : S0 s0 u) (hz : u.size + 1 ≤ 9223372036854775807) (a : Act) (w' : World) (hJ : JE w s0 u g a w') : ∃ rest, findLabel scanC 2 = some (Code.skip.seq rest) ∧ rest.wp Tryz.prog (Exit.jumps (fun l' a' w'' => JS w s0 u g l' a' w'' ∧ muS u l' a' < muS u 2 a) (bodyPost Tryz.prog Tryz.f102 (ScP u g w))) a w' := by
  refine ⟨_, rfl, ?_⟩
  obtain ⟨k, f, dg, bh, hFr, hD, hfacts⟩ := hJ
  obtain ⟨U, rfl, U0, U2, U3, U4, U5⟩ := hFr.ex
  rw [U0, U2, U3, U4, U5]
  clear U0 U2 U3 U4 U5 hFr
  obtain ⟨b0, ⟨c0, c1, c2, c3, c4⟩, z0, z1, z2, z3, z4⟩ := hD.box.facts
  have hsz := hS.sz
  generalize hQ : Exit.jumps _ _ = QQ
  have HQ := Lib.hid hQ
  have HD := Lib.hid hD
  have HS := Lib.hid hS
  clear hQ hD hS
  rcases hfacts with ⟨hkz, hdig, hno⟩ | ⟨hk, hH, hP, rfl, rfl⟩
  · have hk2 : k < s0.size := by omega
    have q1 : ((s0[k].toNat : Int) == 101) = false := by
      rw [HS.out.at_ k hkz hk2, beq_eq_false_iff_ne]
      have := of_decide_eq_true hdig
      omega
    have q1n := bne_of5 q1
    have HN := Lib.hid hno
    have HZ : Hid (k < u.size) := Lib.hid hkz
    clear hno hdig
    go_wp2_with (first | (go_at_call 154; (with_reducible refine (PisDigit_c _ _).mono ?_); rintro ee w1 ⟨rfl, rfl⟩))
    go_step3
    rw [← HQ.out]
    refine ⟨(Or.inr (Or.inr (Or.inr (Or.inr (Or.inr (Or.inr ⟨rfl, k, _, _, _, _, _, ⟨rfl, rfl, rfl, rfl, rfl, rfl, rfl⟩, HD.out, Nat.le_of_lt HZ.out, ⟨fun c => absurd HZ.out (by omega), fun c => absurd c HN.out⟩, fun c => absurd c HN.out⟩)))))), ?_⟩
    first | (simp [muS, rkL, atA]; done) | (simp [muS, rkL, atA]; omega)
  · have hkle : k ≤ u.size := by rw [hk]; exact zM_le u
    have hk2 : k < s0.size := by omega
    have HK := Lib.hid hk
    have HH := Lib.hid hH
    have HP := Lib.hid hP
    have hb1 := HS.out.byte k 101 (by decide) hkle hk2
    skip
    by_cases hX : zX u = true
    · have hX1 := zX_iff.1 hX
      rw [← hk] at hX1
      obtain ⟨q1, hks⟩ := hb1.1 hX1
      have q1n := bne_of5 q1
      have HX := Lib.hid hX
      have hjl := zJ_le hX
      have hm2 : zJ u < s0.size := by omega
      have hzo := zOk_x hX hH hP
      have HZ := Lib.hid hzo
      have hb0 := HS.out.byte (zJ u) 48 (by decide) hjl hm2
      have hdg := HS.out.dig (zJ u) (zJ u) hjl (Nat.le_refl _) (zE_ge u (zJ u)) hm2
      have hge := zE_ge u (zJ u)
      have hEl := zE_le u (zJ u) hjl
      have r1 : ∀ w, (Instr.slice 9 (.string s0) (some (.int .i64 ((zJ u : Nat) : Int))) (some (.int .i64 ((zJ u : Nat) : Int))) none).run Tryz.prog w = .ok (.string ⟨#[]⟩) w := fun w => by
        have h := run_slice_string (P := Tryz.prog) w 9 s0 .i64 .i64 ((zJ u : Nat) : Int) ((zJ u : Nat) : Int) Tryz.underlying9 (by omega) (by omega) (by omega)
        rw [Int.toNat_natCast, ext_nil] at h
        exact h
      by_cases hL : zL u = true
      · obtain ⟨_, hL2⟩ := zL_iff.1 hL
        obtain ⟨j, hj⟩ : ∃ j, j = k + 1 := ⟨_, rfl⟩
        rw [← hk, ← hj] at hL2
        have hJ := zJ_t hL
        have hj2 : j < s0.size := by omega
        have hbj := HS.out.byte j 45 (by decide) (by omega) hj2
        obtain ⟨q2, hjs⟩ := hbj.1 hL2
        have e1 : (k : Int) + 1 = (j : Int) := by omega
        have e2 : (j : Int) + 1 = ((zJ u : Nat) : Int) := by omega
        have HL := Lib.hid hL
        by_cases h0 : isAt u (zJ u) 48
        · have q3 := (hb0.1 h0).1
          have HA := Lib.hid h0
          clear hb1 hb0 hdg hbj hX hX1 hzo hH hP hk hge hEl hL hL2 hJ hj h0
          go_wp2_with (first | (go_at_call 154; (with_reducible refine (PisDigit_c _ _).mono ?_); rintro ee w1 ⟨rfl, rfl⟩))
          obtain ⟨-, ⟨y0, y1, y2, y3, y4⟩, -⟩ := (((((((HD.out.q1 true)).box.p0 (.bool false)).p1 (.bool false)).p2 (.string ⟨#[]⟩)).p3 (.string ⟨#[]⟩)).p4 (.int .i64 0)).facts
          rw [← HQ.out]
          show bodyPost Tryz.prog Tryz.f102 (ScP u g w) Exit.ret _ _
          refine bodyPost_ret (v := .tuple #[.agg #[.bool false, .bool false, .string ⟨#[]⟩, .string ⟨#[]⟩, .int .i64 0], .bool false]) (by simp [results, Tryz.results102, go_sem, y0, y1, y2, y3, y4]) rfl (ScP.no (fun c => by have := ((HZ.out.1 c).2.2 HA.out).1; rw [HL.out] at this; cases this) (below_put5 (HD.out.q1 true).low (Nat.le_refl _) _ _ _ _ _))
        · have q3 := hb0.2 h0
          have q3p := beq_eq_false_iff_ne.1 q3
          have HA := Lib.hid h0
          by_cases cz : zJ u < zE u (zJ u)
          · have hd := (hdg.1 cz).1
            have HE := Lib.hid cz
            clear hb1 hb0 hdg hbj hX hX1 hzo hH hP hk hge hEl hL hL2 hJ hj h0 cz
            go_wp2_with (first | (go_at_call 154; (with_reducible refine (PisDigit_c _ _).mono ?_); rintro ee w1 ⟨rfl, rfl⟩))
            go_step3
            go_wp2_with (first | (go_at_call 154; (with_reducible refine (PisDigit_c _ _).mono ?_); rintro ee w1 ⟨rfl, rfl⟩))
            go_step3
            rw [← HQ.out]
            refine ⟨(Or.inr (Or.inr (Or.inr (Or.inr (Or.inl ⟨rfl, zJ u + 1, ⟨rfl, rfl, rfl, rfl, rfl, rfl, rfl⟩, (by rw [HL.out]; exact (HD.out.q1 true)), HX.out, HH.out, HP.out, HA.out, by omega, HE.out⟩))))), ?_⟩
            first | (simp [muS, rkL, atA]; done) | (simp [muS, rkL, atA]; omega)
          · have hd := hdg.2 (by omega)
            have hno : ¬ zOk u := fun c => by obtain ⟨a, b, _⟩ := hzo.1 c; omega
            have HN := Lib.hid hno
            clear hb1 hb0 hdg hbj hX hX1 hzo hH hP hk hge hEl hL hL2 hJ hj h0 cz hno
            go_wp2_with (first | (go_at_call 154; (with_reducible refine (PisDigit_c _ _).mono ?_); rintro ee w1 ⟨rfl, rfl⟩))
            go_step3
            go_wp2_with (first | (go_at_call 154; (with_reducible refine (PisDigit_c _ _).mono ?_); rintro ee w1 ⟨rfl, rfl⟩))
            go_step3
            go_wp2_with (first | (go_at_call 154; (with_reducible refine (PisDigit_c _ _).mono ?_); rintro ee w1 ⟨rfl, rfl⟩))
            obtain ⟨-, ⟨y0, y1, y2, y3, y4⟩, -⟩ := (((((((HD.out.q1 true).q3 ⟨#[]⟩).box.p0 (.bool false)).p1 (.bool false)).p2 (.string ⟨#[]⟩)).p3 (.string ⟨#[]⟩)).p4 (.int .i64 0)).facts
            rw [← HQ.out]
            show bodyPost Tryz.prog Tryz.f102 (ScP u g w) Exit.ret _ _
            refine bodyPost_ret (v := .tuple #[.agg #[.bool false, .bool false, .string ⟨#[]⟩, .string ⟨#[]⟩, .int .i64 0], .bool false]) (by simp [results, Tryz.results102, go_sem, y0, y1, y2, y3, y4]) rfl (ScP.no HN.out (below_put5 ((HD.out.q1 true).q3 ⟨#[]⟩).low (Nat.le_refl _) _ _ _ _ _))
      · have hJ := zJ_f hL
        have hbj := HS.out.byte (zJ u) 45 (by decide) hjl hm2
        have q2 := hbj.2 (fun c => hL (zL_iff.2 ⟨zX_iff.1 hX, by rw [← hJ]; exact c⟩))
        have e1 : (k : Int) + 1 = ((zJ u : Nat) : Int) := by omega
        have HL := Lib.hid (Bool.eq_false_iff.2 hL)
        by_cases h0 : isAt u (zJ u) 48
        · have q3 := (hb0.1 h0).1
          have HA := Lib.hid h0
          clear hb1 hb0 hdg hbj hX hX1 hzo hH hP hk hge hEl hL hJ h0
          go_wp2_with (first | (go_at_call 154; (with_reducible refine (PisDigit_c _ _).mono ?_); rintro ee w1 ⟨rfl, rfl⟩))
          go_step3
          rw [← HQ.out]
          refine ⟨(Or.inr (Or.inr (Or.inr (Or.inr (Or.inr (Or.inl ⟨rfl, zJ u + 1, ⟨rfl, rfl, rfl, rfl, rfl, rfl, rfl⟩, (by rw [HL.out]; exact (HD.out.q1 false)), HX.out, HL.out, HH.out, HP.out, HA.out, rfl⟩)))))), ?_⟩
          first | (simp [muS, rkL, atA]; done) | (simp [muS, rkL, atA]; omega)
        · have q3 := hb0.2 h0
          have q3p := beq_eq_false_iff_ne.1 q3
          have HA := Lib.hid h0
          by_cases cz : zJ u < zE u (zJ u)
          · have hd := (hdg.1 cz).1
            have HE := Lib.hid cz
            clear hb1 hb0 hdg hbj hX hX1 hzo hH hP hk hge hEl hL hJ h0 cz
            go_wp2_with (first | (go_at_call 154; (with_reducible refine (PisDigit_c _ _).mono ?_); rintro ee w1 ⟨rfl, rfl⟩))
            go_step3
            go_wp2_with (first | (go_at_call 154; (with_reducible refine (PisDigit_c _ _).mono ?_); rintro ee w1 ⟨rfl, rfl⟩))
            go_step3
            rw [← HQ.out]
            refine ⟨(Or.inr (Or.inr (Or.inr (Or.inr (Or.inl ⟨rfl, zJ u + 1, ⟨rfl, rfl, rfl, rfl, rfl, rfl, rfl⟩, (by rw [HL.out]; exact (HD.out.q1 false)), HX.out, HH.out, HP.out, HA.out, by omega, HE.out⟩))))), ?_⟩
            first | (simp [muS, rkL, atA]; done) | (simp [muS, rkL, atA]; omega)
          · have hd := hdg.2 (by omega)
            have hno : ¬ zOk u := fun c => by obtain ⟨a, b, _⟩ := hzo.1 c; omega
            have HN := Lib.hid hno
            clear hb1 hb0 hdg hbj hX hX1 hzo hH hP hk hge hEl hL hJ h0 cz hno
            go_wp2_with (first | (go_at_call 154; (with_reducible refine (PisDigit_c _ _).mono ?_); rintro ee w1 ⟨rfl, rfl⟩))
            go_step3
            go_wp2_with (first | (go_at_call 154; (with_reducible refine (PisDigit_c _ _).mono ?_); rintro ee w1 ⟨rfl, rfl⟩))
            go_step3
            go_wp2_with (first | (go_at_call 154; (with_reducible refine (PisDigit_c _ _).mono ?_); rintro ee w1 ⟨rfl, rfl⟩))
            obtain ⟨-, ⟨y0, y1, y2, y3, y4⟩, -⟩ := (((((((HD.out.q1 false).q3 ⟨#[]⟩).box.p0 (.bool false)).p1 (.bool false)).p2 (.string ⟨#[]⟩)).p3 (.string ⟨#[]⟩)).p4 (.int .i64 0)).facts
            rw [← HQ.out]
            show bodyPost Tryz.prog Tryz.f102 (ScP u g w) Exit.ret _ _
            refine bodyPost_ret (v := .tuple #[.agg #[.bool false, .bool false, .string ⟨#[]⟩, .string ⟨#[]⟩, .int .i64 0], .bool false]) (by simp [results, Tryz.results102, go_sem, y0, y1, y2, y3, y4]) rfl (ScP.no HN.out (below_put5 ((HD.out.q1 false).q3 ⟨#[]⟩).low (Nat.le_refl _) _ _ _ _ _))
    · have q1 := hb1.2 (fun c => hX (zX_iff.2 (by rw [← hk]; exact c)))
      have q1n := bne_of5 q1
      have HX := Lib.hid hX
      have HL : Hid (k ≤ u.size) := Lib.hid hkle
      clear hb1 hX hH hP hk
      go_wp2_with (first | (go_at_call 154; (with_reducible refine (PisDigit_c _ _).mono ?_); rintro ee w1 ⟨rfl, rfl⟩))
      go_step3
      rw [← HQ.out]
      refine ⟨(Or.inr (Or.inr (Or.inr (Or.inr (Or.inr (Or.inr ⟨rfl, k, _, _, _, _, _, ⟨rfl, rfl, rfl, rfl, rfl, rfl, rfl⟩, HD.out, HL.out, (by rw [HK.out]; exact zOk_n HX.out HH.out HP.out), fun _ => ⟨(zL_n HX.out).symm, rfl, (zP_f HX.out).symm, rfl⟩⟩)))))), ?_⟩
      first | (simp [muS, rkL, atA]; done) | (simp [muS, rkL, atA]; omega)
theorem scan_2 (w : World) (s0 u : ByteArray) (g : Bool) (hS : S0 s0 u) (hz : u.size + 1 ≤ 9223372036854775807) (a : Act) (w' : World) (hJ : JE w s0 u g a w') : ∃ rest, findLabel scanC 2 = some rest ∧ rest.wp Tryz.prog (Exit.jumps (fun l' a' w'' => JS w s0 u g l' a' w'' ∧ muS u l' a' < muS u 2 a) (bodyPost Tryz.prog Tryz.f102 (ScP u g w))) a w' := by
  obtain ⟨rest, h1, h2⟩ := scan_2c w s0 u g hS hz a w' hJ
  exact ⟨_, h1, wp_seq (wp_skip h2)⟩
theorem scan_2r (w : World) (s0 u : ByteArray) (g : Bool) (hS : S0 s0 u) (hz : u.size + 1 ≤ 9223372036854775807) (rest : Code) (hr : findLabel scanC 2 = some (Code.skip.seq rest)) (a : Act) (w' : World) (hJ : JE w s0 u g a w') : rest.wp Tryz.prog (Exit.jumps (fun l' a' w'' => JS w s0 u g l' a' w'' ∧ muS u l' a' < muS u 2 a) (bodyPost Tryz.prog Tryz.f102 (ScP u g w))) a w' := by
  obtain ⟨rest', h1, h2⟩ := scan_2c w s0 u g hS hz a w' hJ
  have h3 := Option.some.inj (hr.symm.trans h1)
  obtain rfl : rest = rest' := by injection h3
  exact h2
set_option maxRecDepth 100000 in
set_option maxHeartbeats 4000000 in
theorem scan_3 (w : World) (s0 u : ByteArray) (g : Bool) (hS : S0 s0 u) (hz : u.size + 1 ≤ 9223372036854775807) (a : Act) (w' : World) (hJ : JP w s0 u g a w') : ∃ rest, findLabel scanC 3 = some rest ∧ rest.wp Tryz.prog (Exit.jumps (fun l' a' w'' => JS w s0 u g l' a' w'' ∧ muS u l' a' < muS u 3 a) (bodyPost Tryz.prog Tryz.f102 (ScP u g w))) a w' := by
  refine ⟨_, rfl, ?_⟩
  obtain ⟨k, hFr, hD, hPt, hH, hk1, hk0⟩ := hJ
  obtain ⟨U, rfl, U0, U2, U3, U4, U5⟩ := hFr.ex
  rw [U0, U2, U3, U4, U5]
  clear U0 U2 U3 U4 U5 hFr
  obtain ⟨b0, ⟨c0, c1, c2, c3, c4⟩, z0, z1, z2, z3, z4⟩ := hD.box.facts
  have hsz := hS.sz
  generalize hQ : Exit.jumps _ _ = QQ
  have HQ := Lib.hid hQ
  have HD := Lib.hid hD
  have HS := Lib.hid hS
  clear hQ hD hS
  have hps : zN u < u.size := by obtain ⟨h, _⟩ := zPt_iff.1 hPt; exact h
  have hMt := zM_t hPt
  have hMl := zM_le u
  have hk2 : k < s0.size := by omega
  have hdg := HS.out.dig (zN u + 1) k hps (by omega) (by omega) hk2
  have HPt := Lib.hid hPt
  have HHd := Lib.hid hH
  by_cases cm : k < zM u
  · have hd := (hdg.1 (by omega)).1
    clear hdg hPt hMt hps hH
    go_wp2_with (first | (go_at_call 154; (with_reducible refine (PisDigit_c _ _).mono ?_); rintro ee w1 ⟨rfl, rfl⟩))
    go_step3
    rw [← HQ.out]
    refine ⟨(Or.inr (Or.inr (Or.inl ⟨rfl, k + 1, ⟨rfl, rfl, rfl, rfl, rfl, rfl, rfl⟩, HD.out, HPt.out, HHd.out, by omega, by omega⟩))), ?_⟩
    first | (simp [muS, rkL, atA]; done) | (simp [muS, rkL, atA]; omega)
  · have hd := hdg.2 (by omega)
    have hk : k = zM u := by omega
    have hP : zPt u = true → zN u + 1 < zM u := fun _ => by omega
    obtain ⟨hD1, hB1⟩ := zD_t hPt
    obtain ⟨f, hf⟩ : ∃ f, f = zN u + 1 := ⟨_, rfl⟩
    rw [← hf]
    rw [← hf] at hB1 hD1
    have e0 : (k : Int) - (f : Int) = ((zB u : Nat) : Int) := by omega
    have q0 : (((zB u : Nat) : Int) == 0) = false := by rw [beq_eq_false_iff_ne]; omega
    have q0p := beq_eq_false_iff_ne.1 q0
    obtain ⟨pt, hpt⟩ : ∃ pt, pt = s0.extract f k := ⟨_, rfl⟩
    have hpt2 : pt = u.extract f (zM u) := by rw [hpt, hk]; exact HS.out.ext _ _ hMl
    have r0 : ∀ w, (Instr.slice 9 (.string s0) (some (.int .i64 ((f : Nat) : Int))) (some (.int .i64 ((k : Nat) : Int))) none).run Tryz.prog w = .ok (.string pt) w := fun w => by
      have h := run_slice_string (P := Tryz.prog) w 9 s0 .i64 .i64 ((f : Nat) : Int) ((k : Nat) : Int) Tryz.underlying9 (by omega) (by omega) (by omega)
      rw [Int.toNat_natCast, Int.toNat_natCast, ← hpt] at h
      exact h
    have hz0 : (u.extract 0 (zN u)).size + pt.size ≤ 9223372036854775807 := by rw [hpt2, ByteArray.size_extract, ByteArray.size_extract]; omega
    have hcat : u.extract 0 (zN u) ++ pt = zD u := by rw [hD1, hpt2]
    obtain ⟨A0, hA0⟩ : ∃ A0, A0 = u.extract 0 (zN u) := ⟨_, rfl⟩
    rw [← hA0] at hcat hz0 c2 HD
    clear hA0 hpt hpt2 hD1
    have hz1 : ¬ 9223372036854775807 < A0.size + pt.size := by omega
    clear hdg hPt hMt hps hB1 hz0 hk0 hk1 cm hf
    have HK := Lib.hid hk
    have HH := Lib.hid hH
    have HP := Lib.hid hP
    clear hk hH hP
    go_upto_region 19 with (first | (go_at_call 154; (with_reducible refine (PisDigit_c _ _).mono ?_); rintro ee w1 ⟨rfl, rfl⟩))
    go_region
    go_wp2_with (first | (go_at_call 154; (with_reducible refine (PisDigit_c _ _).mono ?_); rintro ee w1 ⟨rfl, rfl⟩))
    have HD3 := Lib.hid (((HD.out.q4 ((zB u : Nat) : Int)).q2 (zD u)).step (Below.refl _ _).drew)
    go_step3
    simp only [Exit.then]
    apply_assumption
    rw [← HQ.out]
    refine wp_mono5 (jumps_mono5 ?hm) (scan_2r w s0 u g HS.out hz _ rfl _ _ ?hJ)
    case hJ => exact ⟨k, _, zD u, ((zB u : Nat) : Int), ⟨rfl, rfl, rfl, rfl, rfl, rfl, rfl⟩, HD3.out, Or.inr ⟨HK.out, HH.out, HP.out, rfl, rfl⟩⟩
    case hm => first | (simp [muS, rkL, atA]; done) | (simp [muS, rkL, atA]; omega)
set_option maxRecDepth 100000 in
set_option maxHeartbeats 4000000 in
theorem scan_6 (w : World) (s0 u : ByteArray) (g : Bool) (hS : S0 s0 u) (hz : u.size + 1 ≤ 9223372036854775807) (a : Act) (w' : World) (hJ : JM w s0 u g a w') : ∃ rest, findLabel scanC 6 = some rest ∧ rest.wp Tryz.prog (Exit.jumps (fun l' a' w'' => JS w s0 u g l' a' w'' ∧ muS u l' a' < muS u 6 a) (bodyPost Tryz.prog Tryz.f102 (ScP u g w))) a w' := by
  refine ⟨_, rfl, ?_⟩
  obtain ⟨k, hFr, hD, hX, hH, hP, h48, hk1, hk⟩ := hJ
  obtain ⟨U, rfl, U0, U2, U3, U4, U5⟩ := hFr.ex
  rw [U0, U2, U3, U4, U5]
  clear U0 U2 U3 U4 U5 hFr
  obtain ⟨b0, ⟨c0, c1, c2, c3, c4⟩, z0, z1, z2, z3, z4⟩ := hD.box.facts
  have hsz := hS.sz
  generalize hQ : Exit.jumps _ _ = QQ
  have HQ := Lib.hid hQ
  have HD := Lib.hid hD
  have HS := Lib.hid hS
  clear hQ hD hS
  have hj := zJ_le hX
  have hle := zE_le u (zJ u) hj
  have hk2 : k < s0.size := by omega
  have hdg := HS.out.dig (zJ u) k hj (by omega) hk hk2
  have HX := Lib.hid hX
  have HH := Lib.hid hH
  have HP := Lib.hid hP
  have H4 := Lib.hid h48
  clear hX hH hP h48
  by_cases c : k < zE u (zJ u)
  · have hd : isDgB s0[k] = true := (hdg.1 c).1
    clear hdg
    go_wp2_with (first | (go_at_call 154; (with_reducible refine (PisDigit_c _ _).mono ?_); rintro ee w1 ⟨rfl, rfl⟩))
    go_step3
    rw [← HQ.out]
    refine ⟨(Or.inr (Or.inr (Or.inr (Or.inr (Or.inl ⟨rfl, k + 1, ⟨rfl, rfl, rfl, rfl, rfl, rfl, rfl⟩, HD.out, HX.out, HH.out, HP.out, H4.out, by omega, by omega⟩))))), ?_⟩
    first | (simp [muS, rkL, atA]; done) | (simp [muS, rkL, atA]; omega)
  · have hd : isDgB s0[k] = false := hdg.2 (by omega)
    have hkE : k = zE u (zJ u) := by omega
    obtain ⟨pw, hpw⟩ : ∃ pw, pw = s0.extract (zJ u) (k) := ⟨_, rfl⟩
    have hfull := ext_full (s := s0) (i := zJ u) (j := k) (by omega) (by omega)
    have hext : pw = u.extract (zJ u) (k) := hpw.trans (HS.out.ext _ _ (by omega))
    rw [← hpw] at hfull
    obtain ⟨f1, f2, f3⟩ := hfull
    have hw : IntKind.i64.wrap ((s0.size : Int) - 1) = (u.size : Int) := by rw [IntWalk.i64_in _ ⟨by omega, by omega⟩]; omega
    have r1 : ∀ w, (Instr.slice 9 (.string s0) (some (.int .i64 ((zJ u : Nat) : Int))) (some (.int .i64 ((k : Nat) : Int))) none).run Tryz.prog w = .ok (.string pw) w := fun w => by
      have h := run_slice_string (P := Tryz.prog) w 9 s0 .i64 .i64 ((zJ u : Nat) : Int) ((k : Nat) : Int) Tryz.underlying9 (by omega) (by omega) (by omega)
      rw [Int.toNat_natCast, Int.toNat_natCast, ← hpw] at h
      exact h
    have HE := Lib.hid hkE
    have HT := Lib.hid hext
    have hz2 := zOk_x HX.out HH.out HP.out
    have HZ := Lib.hid hz2
    have HJ : Hid (zJ u < k) := Lib.hid hk1
    by_cases ce : k = u.size
    · have q1 : ((k : Int) == (u.size : Int)) = true := by rw [beq_iff_eq]; omega
      have HC := Lib.hid ce
      clear hdg hkE hpw hext hz2 hle hj c ce hk hk1 hsz
      go_wp2_with (first | (go_at_call 154; (with_reducible refine (PisDigit_c _ _).mono ?_); rintro ee w1 ⟨rfl, rfl⟩))
      go_step3
      go_wp2_with (first | (go_at_call 154; (with_reducible refine (PisDigit_c _ _).mono ?_); rintro ee w1 ⟨rfl, rfl⟩))
      go_step3
      go_wp2_with (first | (go_at_call 154; (with_reducible refine (PisDigit_c _ _).mono ?_); rintro ee w1 ⟨rfl, rfl⟩))
      rw [← HQ.out]
      show bodyPost Tryz.prog Tryz.f102 (ScP u g w) Exit.ret _ _
      refine bodyPost_ret (v := .tuple #[.agg #[.bool g, .bool (zL u), .string (zD u), .string pw, .int .i64 (zB u : Int)], .bool true]) (by simp [results, Tryz.results102, go_sem, c0, c1, c2, c3, c4, z0, z1, z2, z3, z4]) rfl (ScP.of ⟨fun _ => HZ.out.2 ⟨by have := HJ.out; have := HC.out; omega, HE.out.symm.trans HC.out, fun c => absurd c H4.out⟩, fun _ => rfl⟩ (fun _ => ⟨rfl, rfl, by rw [HT.out, HC.out, zP_t HX.out], rfl⟩) (below_put5 (HD.out.q3 pw).low (Nat.le_refl _) _ _ _ _ _))
    · have q1 : ((k : Int) == (u.size : Int)) = false := by rw [beq_eq_false_iff_ne]; omega
      have HC := Lib.hid ce
      clear hdg hkE hpw hext hz2 hle hj c ce hk hk1 hsz
      go_wp2_with (first | (go_at_call 154; (with_reducible refine (PisDigit_c _ _).mono ?_); rintro ee w1 ⟨rfl, rfl⟩))
      go_step3
      go_wp2_with (first | (go_at_call 154; (with_reducible refine (PisDigit_c _ _).mono ?_); rintro ee w1 ⟨rfl, rfl⟩))
      go_step3
      go_wp2_with (first | (go_at_call 154; (with_reducible refine (PisDigit_c _ _).mono ?_); rintro ee w1 ⟨rfl, rfl⟩))
      rw [← HQ.out]
      show bodyPost Tryz.prog Tryz.f102 (ScP u g w) Exit.ret _ _
      refine bodyPost_ret (v := .tuple #[.agg #[.bool g, .bool (zL u), .string (zD u), .string pw, .int .i64 (zB u : Int)], .bool false]) (by simp [results, Tryz.results102, go_sem, c0, c1, c2, c3, c4, z0, z1, z2, z3, z4]) rfl (ScP.no (fun c => HC.out (HE.out.trans (HZ.out.1 c).2.1)) (below_put5 (HD.out.q3 pw).low (Nat.le_refl _) _ _ _ _ _))
set_option maxRecDepth 100000 in
set_option maxHeartbeats 4000000 in
theorem scan_5 (w : World) (s0 u : ByteArray) (g : Bool) (hS : S0 s0 u) (hz : u.size + 1 ≤ 9223372036854775807) (a : Act) (w' : World) (hJ : JD w s0 u g a w') : ∃ rest, findLabel scanC 5 = some rest ∧ rest.wp Tryz.prog (Exit.jumps (fun l' a' w'' => JS w s0 u g l' a' w'' ∧ muS u l' a' < muS u 5 a) (bodyPost Tryz.prog Tryz.f102 (ScP u g w))) a w' := by
  refine ⟨_, rfl, ?_⟩
  obtain ⟨k, hFr, hD, hX, hL, hH, hP, h48, hk⟩ := hJ
  obtain ⟨U, rfl, U0, U2, U3, U4, U5⟩ := hFr.ex
  rw [U0, U2, U3, U4, U5]
  clear U0 U2 U3 U4 U5 hFr
  obtain ⟨b0, ⟨c0, c1, c2, c3, c4⟩, z0, z1, z2, z3, z4⟩ := hD.box.facts
  have hsz := hS.sz
  generalize hQ : Exit.jumps _ _ = QQ
  have HQ := Lib.hid hQ
  have HD := Lib.hid hD
  have HS := Lib.hid hS
  clear hQ hD hS
  have hj := zJ_le hX
  obtain ⟨hj1, hj2⟩ := h48
  have hz2 := zOk_x hX hH hP
  have hE : zJ u + 1 = u.size → zE u (zJ u) = u.size := fun h => by
    have h1 := zE_le u (zJ u) hj
    have h2 := zE_ge u (zJ u)
    refine Classical.not_not.1 fun c => ?_
    have h3 : zE u (zJ u) = zJ u := by omega
    have h4 := zE_out u (zJ u) hj (by omega)
    have e : u[zE u (zJ u)]'(by omega) = u[zJ u] := by congr 1
    rw [e] at h4
    unfold isDgB at h4
    have := of_decide_eq_false h4
    omega
  have hok : k = u.size ↔ zOk u := by
    rw [hk, hz2]
    exact ⟨fun h => ⟨hj1, hE h, fun _ => ⟨hL, by omega⟩⟩, fun h => ((h.2.2 ⟨hj1, hj2⟩).2).symm⟩
  obtain ⟨pw, hpw⟩ : ∃ pw, pw = s0.extract (zJ u) (k) := ⟨_, rfl⟩
  have hfull := ext_full (s := s0) (i := zJ u) (j := k) (by omega) (by omega)
  have hext : pw = u.extract (zJ u) (k) := hpw.trans (HS.out.ext _ _ (by omega))
  rw [← hpw] at hfull
  obtain ⟨f1, f2, f3⟩ := hfull
  have hw : IntKind.i64.wrap ((s0.size : Int) - 1) = (u.size : Int) := by rw [IntWalk.i64_in _ ⟨by omega, by omega⟩]; omega
  have r1 : ∀ w, (Instr.slice 9 (.string s0) (some (.int .i64 ((zJ u : Nat) : Int))) (some (.int .i64 ((k : Nat) : Int))) none).run Tryz.prog w = .ok (.string pw) w := fun w => by
    have h := run_slice_string (P := Tryz.prog) w 9 s0 .i64 .i64 ((zJ u : Nat) : Int) ((k : Nat) : Int) Tryz.underlying9 (by omega) (by omega) (by omega)
    rw [Int.toNat_natCast, Int.toNat_natCast, ← hpw] at h
    exact h
  have HO := Lib.hid hok
  have HX := Lib.hid hX
  have HT := Lib.hid hext
  clear hpw hext hz2 hE hok hH hP hL hX hj2
  have HK := Lib.hid hk
  by_cases ce : k = u.size
  · have q1 : ((k : Int) == (u.size : Int)) = true := by rw [beq_iff_eq]; omega
    have HC := Lib.hid ce
    clear ce hj hj1 hsz hk
    go_wp2_with (first | (go_at_call 154; (with_reducible refine (PisDigit_c _ _).mono ?_); rintro ee w1 ⟨rfl, rfl⟩))
    go_step3
    go_wp2_with (first | (go_at_call 154; (with_reducible refine (PisDigit_c _ _).mono ?_); rintro ee w1 ⟨rfl, rfl⟩))
    rw [← HQ.out]
    show bodyPost Tryz.prog Tryz.f102 (ScP u g w) Exit.ret _ _
    refine bodyPost_ret (v := .tuple #[.agg #[.bool g, .bool (zL u), .string (zD u), .string pw, .int .i64 (zB u : Int)], .bool true]) (by simp [results, Tryz.results102, go_sem, c0, c1, c2, c3, c4, z0, z1, z2, z3, z4]) rfl (ScP.of ⟨fun _ => HO.out.1 HC.out, fun _ => rfl⟩ (fun _ => ⟨rfl, rfl, by rw [HT.out, HC.out, zP_t HX.out], rfl⟩) (below_put5 (HD.out.q3 pw).low (Nat.le_refl _) _ _ _ _ _))
  · have q1 : ((k : Int) == (u.size : Int)) = false := by rw [beq_eq_false_iff_ne]; omega
    have HC := Lib.hid ce
    clear ce hj hj1 hsz hk
    go_wp2_with (first | (go_at_call 154; (with_reducible refine (PisDigit_c _ _).mono ?_); rintro ee w1 ⟨rfl, rfl⟩))
    go_step3
    go_wp2_with (first | (go_at_call 154; (with_reducible refine (PisDigit_c _ _).mono ?_); rintro ee w1 ⟨rfl, rfl⟩))
    rw [← HQ.out]
    show bodyPost Tryz.prog Tryz.f102 (ScP u g w) Exit.ret _ _
    refine bodyPost_ret (v := .tuple #[.agg #[.bool g, .bool (zL u), .string (zD u), .string pw, .int .i64 (zB u : Int)], .bool false]) (by simp [results, Tryz.results102, go_sem, c0, c1, c2, c3, c4, z0, z1, z2, z3, z4]) rfl (ScP.no (fun c => HC.out (HO.out.2 c)) (below_put5 (HD.out.q3 pw).low (Nat.le_refl _) _ _ _ _ _))
end Go.Proofs.YtajcapliokblfaaGreatDoor
namespace Go.Proofs.YtajcapliokblfaaGreatDoor
open Go Go.RowKit Nt
theorem DB.start (w : World) (T : TypeId) : DB w false false ⟨#[]⟩ ⟨#[]⟩ 0 (w.alloc (.cells #[.bool false, .bool false, .string ⟨#[]⟩, .string ⟨#[]⟩, .int .i64 0] T)) := ⟨(Below.refl _ _).alloc (Nat.le_refl _) _, Bx5.new w _ _ _ _ _ T⟩
set_option maxRecDepth 100000 in
set_option maxHeartbeats 4000000 in
theorem scan_c (s : ByteArray) (w : World) (hs : s.size + 1 ≤ 9223372036854775807) : Calls Tryz.prog 102 #[.string s] w (ScP (offB 45 s) (begB 45 s) w) := by
  have K : Hid (∀ w, Calls Tryz.prog 98 #[.string s, .string ⟨#[45]⟩] w fun e w' => e = .returned (.tuple #[.string (offB 45 s), .bool (begB 45 s)]) ∧ Below w.heap.size w w') := Lib.hid fun w => PCutPrefix_c 45 s w
  have hz : (offB 45 s).size + 1 ≤ 9223372036854775807 := by have := offB_size 45 s; omega
  generalize offB 45 s = u at *
  generalize begB 45 s = g at *
  clear hs
  have hS0 := s0_of u
  obtain ⟨s0, hs0⟩ : ∃ s0, s0 = u ++ ⟨#[0]⟩ := ⟨_, rfl⟩
  rw [← hs0] at hS0
  have hcat : u ++ ⟨#[0]⟩ = s0 := hs0.symm
  clear hs0
  have hsz := hS0.sz
  have HS := Lib.hid hS0
  have h1 : (ByteArray.mk #[0]).size = 1 := rfl
  have hz1 : ¬ 9223372036854775807 < u.size + (ByteArray.mk #[0]).size := by rw [h1]; omega
  have hz2 : ¬ 9223372036854775807 < u.size + 1 := by omega
  have T0 := DB.start w 121
  have hb1 := HS.out.byte 0 48 (by decide) (Nat.zero_le _) (by omega)
  have hdg := HS.out.dig 0 0 (Nat.zero_le _) (Nat.le_refl _) (zE_ge u 0) (by omega)
  have hk2 : 0 < s0.size := by omega
  clear hS0 h1
  go_enter Tryz.func102, Tryz.ntmps102
  go_wp2
  refine wp_scope_labels (JS w s0 u g) (fun l a _ => muS u l a) ?first ?pass
  case pass =>
    intro l a w' h
    rcases h with ⟨rfl, h⟩ | ⟨rfl, h⟩ | ⟨rfl, h⟩ | ⟨rfl, h⟩ | ⟨rfl, h⟩ | ⟨rfl, h⟩ | ⟨rfl, h⟩
    · exact scan_1 w s0 u g HS.out hz a w' h
    · exact scan_0 w s0 u g HS.out hz a w' h
    · exact scan_3 w s0 u g HS.out hz a w' h
    · exact scan_2 w s0 u g HS.out hz a w' h
    · exact scan_6 w s0 u g HS.out hz a w' h
    · exact scan_5 w s0 u g HS.out hz a w' h
    · exact scan_4 w s0 u g HS.out hz a w' h
  case first =>
    generalize hQ : Exit.jumps _ _ = QQ
    have HQ := Lib.hid hQ
    clear hQ
    by_cases h0 : isAt u 0 48
    · have q1 := (hb1.1 h0).1
      have HA := Lib.hid h0
      clear hb1 hdg h0
      go_wp2_with (first | (go_at_call 98; (with_reducible refine (K.out _).mono ?_); rintro ee w1 ⟨rfl, hb⟩; replace T0 := T0.step hb; clear hb; obtain ⟨b0, ⟨c0, c1, c2, c3, c4⟩, z0, z1, z2, z3, z4⟩ := T0.box.facts) | (go_at_call 154; (with_reducible refine (PisDigit_c _ _).mono ?_); rintro ee w1 ⟨rfl, rfl⟩))
      go_step3
      rw [← HQ.out]
      exact (Or.inr (Or.inl ⟨rfl, 1, ⟨rfl, rfl, rfl, rfl, rfl, rfl, rfl⟩, T0.q0 g, Or.inl ⟨rfl, HA.out⟩⟩))
    · have q1 := hb1.2 h0
      have q1p := beq_eq_false_iff_ne.1 q1
      have HA := Lib.hid h0
      by_cases cz : 0 < zE u 0
      · have hd := (hdg.1 cz).1
        have HZ : Hid (1 ≤ zN u) := Lib.hid (by unfold zN; omega)
        clear hb1 hdg h0 cz
        go_wp2_with (first | (go_at_call 98; (with_reducible refine (K.out _).mono ?_); rintro ee w1 ⟨rfl, hb⟩; replace T0 := T0.step hb; clear hb; obtain ⟨b0, ⟨c0, c1, c2, c3, c4⟩, z0, z1, z2, z3, z4⟩ := T0.box.facts) | (go_at_call 154; (with_reducible refine (PisDigit_c _ _).mono ?_); rintro ee w1 ⟨rfl, rfl⟩))
        go_step3
        go_wp2_with (first | (go_at_call 98; (with_reducible refine (K.out _).mono ?_); rintro ee w1 ⟨rfl, hb⟩; replace T0 := T0.step hb; clear hb; obtain ⟨b0, ⟨c0, c1, c2, c3, c4⟩, z0, z1, z2, z3, z4⟩ := T0.box.facts) | (go_at_call 154; (with_reducible refine (PisDigit_c _ _).mono ?_); rintro ee w1 ⟨rfl, rfl⟩))
        go_step3
        rw [← HQ.out]
        exact (Or.inl ⟨rfl, 1, ⟨rfl, rfl, rfl, rfl, rfl, rfl, rfl⟩, T0.q0 g, HA.out, HZ.out⟩)
      · have hd := hdg.2 (by omega)
        have HZ : Hid (0 = zN u) := Lib.hid (by unfold zN; omega)
        clear hb1 hdg h0 cz
        go_wp2_with (first | (go_at_call 98; (with_reducible refine (K.out _).mono ?_); rintro ee w1 ⟨rfl, hb⟩; replace T0 := T0.step hb; clear hb; obtain ⟨b0, ⟨c0, c1, c2, c3, c4⟩, z0, z1, z2, z3, z4⟩ := T0.box.facts) | (go_at_call 154; (with_reducible refine (PisDigit_c _ _).mono ?_); rintro ee w1 ⟨rfl, rfl⟩))
        go_step3
        go_wp2_with (first | (go_at_call 98; (with_reducible refine (K.out _).mono ?_); rintro ee w1 ⟨rfl, hb⟩; replace T0 := T0.step hb; clear hb; obtain ⟨b0, ⟨c0, c1, c2, c3, c4⟩, z0, z1, z2, z3, z4⟩ := T0.box.facts) | (go_at_call 154; (with_reducible refine (PisDigit_c _ _).mono ?_); rintro ee w1 ⟨rfl, rfl⟩))
        go_step3
        rw [← HQ.out]
        exact (Or.inr (Or.inl ⟨rfl, 0, ⟨rfl, rfl, rfl, rfl, rfl, rfl, rfl⟩, T0.q0 g, Or.inr ⟨HZ.out, HA.out⟩⟩))
end Go.Proofs.YtajcapliokblfaaGreatDoor
namespace Go.Proofs.YtajcapliokblfaaGreatDoor
open Go Go.RowKit Nt Go.Lib
def itPos (W : World) (B : Nat) : Nat := match W.heap[B]? with
  | some (.stringIter _ p) => p
  | _ => 0
theorem itPos_of {W : World} {B p : Nat} {s : ByteArray} (h : W.heap[B]? = some (.stringIter s p)) : itPos W B = p := by unfold itPos; rw [h]
@[irreducible] def smV (s : ByteArray) (k : Nat) : Nat := min (preV s k) 5001
theorem smV_zero (s : ByteArray) : smV s 0 = 0 := by unfold smV; rw [preV_zero]; rfl
theorem smV_le (s : ByteArray) (k : Nat) : smV s k ≤ 5001 := by unfold smV; exact Nat.min_le_right _ _
theorem smV_succ (s : ByteArray) (k : Nat) (h : k < s.size) : smV s (k + 1) = min (10 * smV s k + (s[k].toNat - 48)) 5001 := by
  unfold smV
  rw [preV_succ s k h]
  omega
set_option maxRecDepth 100000 in
set_option maxHeartbeats 1000000 in
theorem PSmall_c (s : ByteArray) (w : World) (hd : Digits s) (hz : s.size ≤ 9223372036854775807) : Calls Tryz.prog 155 #[.string s] w fun e w' => e = .returned (.int .i64 (smV s s.size : Nat)) ∧ Below w.heap.size w w' := by
  have HD := Lib.hid hd
  clear hd
  have h0 : (w.iter s 0).heap[w.heap.size]? = some (.stringIter s 0) := heap_alloc_new w (.stringIter s 0)
  have hb0 : Below w.heap.size w (w.iter s 0) := (Below.refl _ _).alloc (Nat.le_refl _) _
  go_enter Tryz.func155, Tryz.ntmps155
  go_wp2
  revert h0 hb0
  generalize w.iter s 0 = w0
  intro h0 hb0
  go_loopw [3] (fun v wr => ∃ (k n : Nat), v = .int .i64 (n : Nat) ∧ k ≤ s.size ∧ Hid (n = smV s k) ∧ Hid (wr.heap[w.heap.size]? = some (.stringIter s k)) ∧ Hid (Below w.heap.size w wr)) (fun _ wr => s.size - itPos wr w.heap.size)
  case atStart => exact ⟨0, 0, rfl, Nat.zero_le _, Lib.hid (smV_zero s).symm, Lib.hid h0, Lib.hid hb0⟩
  case round =>
    obtain ⟨k, n, rfl, hk, hn, hi, hb⟩ := hrel
    by_cases hlt : k < s.size
    · have hdk := HD.out k hlt
      unfold isDig at hdk
      have hsv := smV_succ s k hlt
      have hn0 : ∀ ty, (Instr.next (.pointer (some ⟨w.heap.size, 0, none⟩)) true ty).run Tryz.prog wr = .ok (.tuple #[.bool true, .int .i64 (k : Nat), .int .i32 (s[k].toNat : Nat)]) (wr.iterAt w.heap.size s (k + 1)) := fun ty => run_next_ascii_at wr w.heap.size s k ty hi.out hlt (by omega)
      have hi2 := iterAt_heap wr w.heap.size s k (k + 1) hi.out
      have hb2 := below_iterAt hb.out (Nat.le_refl _) s (k + 1)
      have hp1 := itPos_of hi.out
      have hp2 := itPos_of hi2
      have hnl := smV_le s k
      have hn2 := hn.out
      revert hn0 hi2 hb2 hsv hp2
      generalize wr.iterAt w.heap.size s (k + 1) = wq
      generalize s[k].toNat = c at *
      intro hsv hn0 hi2 hb2 hp2
      obtain ⟨n2, hn3⟩ : ∃ n2, n2 = smV s (k + 1) := ⟨_, rfl⟩
      rw [← hn2] at hsv hnl
      rw [← hn3] at hsv
      have HS := Lib.hid hsv
      have HN := Lib.hid hn3
      have HI := Lib.hid hi2
      have HB := Lib.hid hb2
      have HP1 := Lib.hid hp1
      have HP2 := Lib.hid hp2
      clear hsv hn3 hi2 hb2 hn2 hi hb hn hp1 hp2
      go_wp2
      go_round
      case rel => exact ⟨k + 1, n2, by have := HS.out; congr 1; omega, hlt, HN, HI, HB⟩
      case measure => rw [HP1.out, HP2.out]; omega
    · have hke : k = s.size := by omega
      have hn0 : ∀ ty, (Instr.next (.pointer (some ⟨w.heap.size, 0, none⟩)) true ty).run Tryz.prog wr = .ok (.tuple #[.bool false]) wr := fun ty => run_next_end_at wr w.heap.size s k ty hi.out hlt
      have HK := Lib.hid hke
      clear hke hlt
      go_wp2
      go_ret
      exact ⟨by rw [hn.out, HK.out]; rfl, hb.out⟩
end Go.Proofs.YtajcapliokblfaaGreatDoor
namespace Go.Proofs.YtajcapliokblfaaGreatDoor
open Go Go.RowKit Nt Go.Lib
theorem ten_pow (b e k n : Nat) (hb : 1 < b) (h10 : 10 ≤ b) (h : n < e * k) : 10 ^ n < (b ^ e) ^ k := by
  rw [← Nat.pow_mul]
  exact Nat.lt_of_le_of_lt (Nat.pow_le_pow_left h10 n) (Nat.pow_lt_pow_right hb h)
theorem ten_lt (n : Nat) (h : n ≤ 9096) : 10 ^ n < W ^ 600 := by
  have e : W = 16 ^ 16 := by rw [W_eq]
  rw [e]
  exact ten_pow 16 16 600 n (by decide) (by decide) (by omega)
theorem ten_nd (n : Nat) (h : n ≤ 9096) : nd W (10 ^ n) ≤ 600 := nd_le W2 (ten_lt n h)
theorem ten_fits (n : Nat) (h : n ≤ 9096) : fits (10 ^ n) := by
  unfold fits
  refine nd_le (by omega) ?_
  have h1 := ten_pow 256 1 16384 n (by decide) (by decide) (by omega)
  rwa [Nat.pow_one] at h1
theorem nd2_10 : nd 2 10 = 4 := nd_unique (b := 2) (n := 10) (k := 3) (by omega) (by decide) (by decide)
theorem Pow10_c (n : Nat) (w : World) (h : n ≤ 9096) : Calls Tryz.prog 156 #[.string (natS 10), .int .i64 (n : Nat)] w (StrPost (natS (10 ^ n)) 0 w) := by
  rcases Nat.lt_or_ge n 2 with h2 | h2
  · rcases (show n = 0 ∨ n = 1 by omega) with rfl | rfl
    · exact NPow_zero 10 w fits_10
    · exact NPow_same 10 1 w fits_10 (by omega) (Or.inr rfl)
  · have hp := NPow_c 10 n w fits_10 (by rw [nd2_10]; omega) h2 (by omega) (by rw [nd2_10]; omega)
    rw [resS_ok (ten_fits n h), resE_ok (ten_fits n h)] at hp
    exact hp
structure Dm where
  (neg : Bool) (less : Bool) (dg : ByteArray) (pw : ByteArray) (bh : Nat)
@[reducible] def Dm.cells (d : Dm) : Array Value := #[.bool d.neg, .bool d.less, .string d.dg, .string d.pw, .int .i64 (d.bh : Nat)]
def VKd (d : Dm) (w : World) (k pos : Nat) (W : World) : Prop := Below w.heap.size w W ∧ Blk W w.heap.size 121 d.cells ∧ (∃ b y z, Bx3 W (w.heap.size + 1) (.bool b, y, z)) ∧ w.heap.size + 1 < k ∧ W.heap[k]? = some (.stringIter d.dg pos)
theorem VKd.step {d : Dm} {w : World} {k pos : Nat} {W W' : World} (h : VKd d w k pos W) (hb : Below W.heap.size W W') : VKd d w k pos W' := by
  obtain ⟨h1, h2, ⟨b, y, z, h3⟩, h4, h5⟩ := h
  exact ⟨below_chain h1 hb, h2.below hb h2.lt, ⟨b, y, z, h3.step hb⟩, h4, (hb.block k (Array.getElem?_eq_some_iff.1 h5).1).trans h5⟩
theorem VKd.drawn {d : Dm} {w : World} {k pos : Nat} {W : World} (h : VKd d w k pos W) (n : Nat) : VKd d w k pos (W.drewN n) := h.step (below_drewN (Below.refl _ _) n)
theorem VKd.drew {d : Dm} {w : World} {k pos : Nat} {W : World} (h : VKd d w k pos W) : VKd d w k pos W.drew := h.step (Below.refl _ _).drew
theorem VKd.next {d : Dm} {w : World} {k pos : Nat} {W : World} (h : VKd d w k pos W) (q : Nat) : VKd d w k q (W.iterAt k d.dg q) := by
  obtain ⟨h1, h2, ⟨b, y, z, T, h3⟩, h4, h5⟩ := h
  refine ⟨below_iterAt h1 (by omega) _ _, (iterAt_other _ _ _ _ _ (by omega)).trans h2, ⟨b, y, z, T, (iterAt_other _ _ _ _ _ (by omega)).trans h3⟩, h4, iterAt_heap _ _ _ _ _ h5⟩
theorem VKd.put {d : Dm} {w : World} {k pos : Nat} {W : World} (h : VKd d w k pos W) (x : Bool) (y z : Value) : VKd d w k pos (((W.setCell ⟨w.heap.size + 1, 0, none⟩ (.bool x)).setCell ⟨w.heap.size + 1, 1, none⟩ y).setCell ⟨w.heap.size + 1, 2, none⟩ z) := by
  obtain ⟨h1, h2, ⟨b, y', z', h3⟩, h4, h5⟩ := h
  refine ⟨below_put3 h1 (by omega) _ _ _, ((h2.far (p := ⟨w.heap.size + 1, 0, none⟩) (by simp) _).far (p := ⟨w.heap.size + 1, 1, none⟩) (by simp) _).far (p := ⟨w.heap.size + 1, 2, none⟩) (by simp) _, ⟨_, _, _, h3.put _ _ _⟩, h4, ?_⟩
  have : ∀ (U : World) (i : Nat) (v : Value), (U.setCell ⟨w.heap.size + 1, i, none⟩ v).heap[k]? = U.heap[k]? := fun U i v => by
    simp [World.setCell, Array.getElem?_modify]; omega
  rw [this, this, this]; exact h5
theorem VKd.cells {d : Dm} {w : World} {k pos : Nat} {W : World} (h : VKd d w k pos W) : w.heap.size + 1 < W.heap.size ∧ W.cell? ⟨w.heap.size, 0, none⟩ = some (.bool d.neg) ∧ W.cell? ⟨w.heap.size, 1, none⟩ = some (.bool d.less) ∧ W.cell? ⟨w.heap.size, 2, none⟩ = some (.string d.dg) ∧ W.cell? ⟨w.heap.size, 3, none⟩ = some (.string d.pw) ∧ W.cell? ⟨w.heap.size, 4, none⟩ = some (.int .i64 (d.bh : Nat)) := by
  obtain ⟨h1, h2, ⟨b, y, z, h3⟩, h4, h5⟩ := h
  exact ⟨h3.facts.1, by rw [h2.cell]; rfl, by rw [h2.cell]; rfl, by rw [h2.cell]; rfl, by rw [h2.cell]; rfl, by rw [h2.cell]; rfl⟩
theorem VKd.res {d : Dm} {w : World} {k pos : Nat} {W : World} (h : VKd d w k pos W) : w.heap.size + 1 < W.heap.size ∧ W.cell? ⟨w.heap.size + 1, 0, none⟩ = some (celAt W (w.heap.size + 1) 0) ∧ W.cell? ⟨w.heap.size + 1, 1, none⟩ = some (celAt W (w.heap.size + 1) 1) ∧ W.cell? ⟨w.heap.size + 1, 2, none⟩ = some (celAt W (w.heap.size + 1) 2) ∧ W.frozen? ⟨w.heap.size + 1, 0, none⟩ = false ∧ W.frozen? ⟨w.heap.size + 1, 1, none⟩ = false ∧ W.frozen? ⟨w.heap.size + 1, 2, none⟩ = false := by
  obtain ⟨h1, h2, ⟨b, y, z, hc⟩, h4, h5⟩ := h
  obtain ⟨r0, r1, r2, r3, r4, r5, r6⟩ := hc.facts
  exact ⟨r0, celAt_eq r1, celAt_eq r2, celAt_eq r3, r4, r5, r6⟩
def VBd (d : Dm) (w : World) (W : World) : Prop := Below w.heap.size w W ∧ Blk W w.heap.size 121 d.cells ∧ ∃ b y z, Bx3 W (w.heap.size + 1) (.bool b, y, z)
theorem VBd.start (d : Dm) (w : World) (T : TypeId) : VBd d w ((w.alloc (.cells d.cells 121)).alloc (.cells #[.bool false, .string ⟨#[]⟩, .string ⟨#[]⟩] T)) := by
  refine ⟨((Below.refl _ _).alloc (Nat.le_refl _) _).alloc (by simp) _, (Blk.new w _ _).alloc _, false, .string ⟨#[]⟩, .string ⟨#[]⟩, ?_⟩
  have := Bx3.new (w.alloc (.cells d.cells 121)) (.bool false) (.string ⟨#[]⟩) (.string ⟨#[]⟩) T
  simpa using this
theorem VBd.step {d : Dm} {w W W' : World} (h : VBd d w W) (hb : Below W.heap.size W W') : VBd d w W' := by
  obtain ⟨h1, h2, b, y, z, h3⟩ := h
  exact ⟨below_chain h1 hb, h2.below hb h2.lt, b, y, z, h3.step hb⟩
theorem VBd.iter {d : Dm} {w W : World} (h : VBd d w W) : VKd d w W.heap.size 0 (W.iter d.dg 0) := by
  obtain ⟨h1, h2, b, y, z, h3⟩ := h.step (W' := W.iter d.dg 0) ((Below.refl _ _).alloc (Nat.le_refl _) _)
  obtain ⟨_, _, b', y', z', h3'⟩ := h
  exact ⟨h1, h2, ⟨b, y, z, h3⟩, h3'.facts.1, World.iter_heap W d.dg 0⟩
theorem VBd.cells {d : Dm} {w W : World} (h : VBd d w W) : w.heap.size + 1 < W.heap.size ∧ W.cell? ⟨w.heap.size, 0, none⟩ = some (.bool d.neg) ∧ W.cell? ⟨w.heap.size, 1, none⟩ = some (.bool d.less) ∧ W.cell? ⟨w.heap.size, 2, none⟩ = some (.string d.dg) ∧ W.cell? ⟨w.heap.size, 3, none⟩ = some (.string d.pw) ∧ W.cell? ⟨w.heap.size, 4, none⟩ = some (.int .i64 (d.bh : Nat)) := by
  obtain ⟨h1, h2, b, y, z, h3⟩ := h
  exact ⟨h3.facts.1, by rw [h2.cell]; rfl, by rw [h2.cell]; rfl, by rw [h2.cell]; rfl, by rw [h2.cell]; rfl, by rw [h2.cell]; rfl⟩
end Go.Proofs.YtajcapliokblfaaGreatDoor
namespace Go.Proofs.YtajcapliokblfaaGreatDoor
open Go Go.RowKit Nt Go.Lib
set_option maxRecDepth 100000 in
set_option maxHeartbeats 2000000 in
theorem PValue_long (neg less : Bool) (dg pw : ByteArray) (bh : Nat) (w : World) (hd : Digits pw) (hz : pw.size ≤ 9223372036854775807) (hb5 : bh ≤ 4096) (hl : smV pw pw.size = 5001) : Calls Tryz.prog 103 #[.agg #[.bool neg, .bool less, .string dg, .string pw, .int .i64 (bh : Nat)]] w fun e w' => e = .returned (.tuple #[.agg #[.bool false, .string ⟨#[]⟩, .string ⟨#[]⟩], .int .i64 4]) ∧ Below w.heap.size w w' := by
  have KS := Lib.hid (fun w => PSmall_c pw w hd hz)
  rw [hl] at KS
  clear hl hd
  have T0 := VBd.start ⟨neg, less, dg, pw, bh⟩ w 24
  have TC := T0.cells
  dsimp only [Dm.cells] at TC T0
  obtain ⟨p0, p1, p2, p3, p5, p4⟩ := TC
  go_enter Tryz.func103, Tryz.ntmps103
  go_wp2_with fail
  refine (KS.out _).mono ?_
  rintro ee w1 ⟨rfl, hb⟩
  replace T0 := T0.step hb
  clear hb p0 p1 p2 p3 p4 p5
  have TC := T0.cells
  dsimp only at TC
  obtain ⟨p0, p1, p2, p3, p5, p4⟩ := TC
  obtain ⟨q1, q2, b, y, z, q3⟩ := T0
  obtain ⟨r0, r1, r2, r3, r4, r5, r6⟩ := q3.facts
  have hfin := below_put3 q1 (show w.heap.size ≤ w.heap.size + 1 by omega)
  go_wp2_with fail
  refine bodyPost_ret (v := .tuple #[.agg #[.bool false, .string ⟨#[]⟩, .string ⟨#[]⟩], .int .i64 4]) (by simp [results, Tryz.results103, go_sem, r0, r1, r2, r3]) rfl ⟨rfl, hfin _ _ _⟩
theorem Row.iter {w : World} {B L n k : Nat} {A : Option Addr} {s : ByteArray} {p : Nat} (h : Row w B A n L) (hk : w.heap[k]? = some (.stringIter s p)) (q : Nat) : Row (w.iterAt k s q) B A n L := fun hL => by
  obtain ⟨g, e, hg, hc⟩ := h hL
  have hne : g ≠ k := by
    intro hgk
    have := hc 0 hL
    unfold World.cell? at this
    rw [show (⟨g, 0, none⟩ : Addr).block = k from hgk, hk] at this
    cases this
  refine ⟨g, e, hg, fun j hj => ?_⟩
  rw [← hc j hj]
  unfold World.cell?
  rw [iterAt_other _ _ _ _ _ (show (⟨g, j, none⟩ : Addr).block ≠ k from hne)]
theorem ten_prod (dg : ByteArray) (h : Digits dg) (u : Nat) (hu : dg.size + u ≤ 9096) : nd W (preV dg dg.size) + nd W (10 ^ u) ≤ 1000000000 ∧ nd W (preV dg dg.size * 10 ^ u) ≤ 9000 := by
  have h1 := Nat.le_of_lt (dig_pre h dg.size (Nat.le_refl _))
  have h2 := nd_mono (b := W) W2 h1
  have h3 := ten_nd dg.size (by omega)
  have h4 := ten_nd u (by omega)
  have h5 : preV dg dg.size * 10 ^ u ≤ 10 ^ (dg.size + u) := by rw [Nat.pow_add]; exact Nat.mul_le_mul_right _ h1
  have h6 := nd_mono (b := W) W2 h5
  have h7 := ten_nd (dg.size + u) hu
  omega
set_option maxRecDepth 100000 in
set_option maxHeartbeats 2000000 in
theorem PValue_f (neg : Bool) (dg pw : ByteArray) (bh : Nat) (w : World) (hd : Digits pw) (hz : pw.size ≤ 9223372036854775807) (hb5 : bh ≤ 4096) (hdg : Digits dg) (hz2 : dg.size ≤ 4096) (hl : smV pw pw.size ≤ 5000) (u v : Nat) (hu : u = smV pw pw.size - bh) (hv : v = bh - smV pw pw.size) : Calls Tryz.prog 103 #[.agg #[.bool neg, .bool false, .string dg, .string pw, .int .i64 (bh : Nat)]] w (LwPost (fr neg (preV dg dg.size * 10 ^ u) (10 ^ v)) w) := by
  have KS := Lib.hid (fun w => PSmall_c pw w hd hz)
  generalize smV pw pw.size = n at *
  have HDG := Lib.hid hdg
  have HU0 := Lib.hid hu
  have HV0 := Lib.hid hv
  clear hd hdg hu hv
  have T0 := VBd.start ⟨neg, false, dg, pw, bh⟩ w 24
  have TC := T0.cells
  dsimp only [Dm.cells] at TC T0
  obtain ⟨p0, p1, p2, p3, p5, p4⟩ := TC
  go_enter Tryz.func103, Tryz.ntmps103
  go_wp2_with fail
  refine (KS.out _).mono ?_
  rintro ee w1 ⟨rfl, hb⟩
  replace T0 := T0.step hb
  clear hb p0 p1 p2 p3 p4 p5
  have TC := T0.cells
  dsimp only at TC
  obtain ⟨p0, p1, p2, p3, p5, p4⟩ := TC
  go_wp2_with fail
  have T2 := T0.iter
  clear T0 p0 p1 p2 p3 p4 p5
  generalize w1.iter dg 0 = w2 at *
  generalize w1.heap.size = K at *
  go_loopw [5] (fun v wr => ∃ (k c : Nat) (A : Option Addr), v = .slice A (nd W (preV dg k)) c ∧ k ≤ dg.size ∧ Hid (Row wr wr.heap.size A (preV dg k) (nd W (preV dg k))) ∧ Hid (VKd ⟨neg, false, dg, pw, bh⟩ w K k wr)) (fun _ wr => dg.size - itPos wr K)
  case atStart => exact ⟨0, 0, none, by rw [preV_zero, nd_zero], Nat.zero_le _, Lib.hid (by rw [preV_zero, nd_zero]; exact Row.none_), Lib.hid T2⟩
  case round =>
    obtain ⟨k, c, A, rfl, hk, hr, hi⟩ := hrel
    by_cases hlt : k < dg.size
    · have hdk := HDG.out k hlt
      unfold isDig at hdk
      have hsv := preV_succ dg k hlt
      have hn0 : ∀ ty, (Instr.next (.pointer (some ⟨K, 0, none⟩)) true ty).run Tryz.prog wr = .ok (.tuple #[.bool true, .int .i64 (k : Nat), .int .i32 (dg[k].toNat : Nat)]) (wr.iterAt K dg (k + 1)) := fun ty => run_next_ascii_at wr K dg k ty hi.out.2.2.2.2 hlt (by omega)
      have hi2 := hi.out.next (k + 1)
      have hb2 : Row (wr.iterAt K dg (k + 1)) (wr.iterAt K dg (k + 1)).heap.size A (preV dg k) (nd W (preV dg k)) := by rw [iterAt_size]; exact hr.out.iter hi.out.2.2.2.2 (k + 1)
      have hp1 := itPos_of hi.out.2.2.2.2
      have hp2 := itPos_of hi2.2.2.2.2
      revert hn0 hi2 hb2 hsv hp2
      generalize wr.iterAt K dg (k + 1) = wq
      generalize dg[k].toNat = m at *
      intro hsv hn0 hi2 hb2 hp2
      have hput := Put_c A c (preV dg k) 10 (m - 48) wq.heap.size wq (by omega) (by omega) (by have := ten_nd k (by omega); have := nd_mono (b := W) W2 (Nat.le_of_lt (dig_pre HDG.out k hk)); omega) hb2 (Nat.le_refl _)
      rw [show preV dg k * 10 + (m - 48) = preV dg (k + 1) by omega] at hput
      have HPUT := Lib.hid hput
      have HI := Lib.hid hi2
      have HP1 := Lib.hid hp1
      have HP2 := Lib.hid hp2
      have HM : 48 ≤ m ∧ m ≤ 57 := by omega
      clear hsv hi2 hb2 hi hr hp1 hp2 hput
      go_wp2_with fail
      rw [show (m : Int) - 48 = ((m - 48 : Nat) : Int) by omega]
      refine HPUT.out.mono ?_
      rintro ee w4 hp
      obtain ⟨A1, c1, rfl, hc1, hr1, hb1⟩ := hp.get
      have HI2 := Lib.hid (HI.out.step hb1)
      have HP3 := Lib.hid (itPos_of HI2.out.2.2.2.2)
      have HR1 := Lib.hid hr1
      clear hp hr1 hb1 hn0 HPUT
      go_wp2_with fail
      go_round
      case rel => exact ⟨k + 1, c1, A1, rfl, hlt, HR1, HI2⟩
      case measure => rw [HP1.out, HP3.out]; omega
    · have hke : k = dg.size := by omega
      subst hke
      have hn0 : ∀ ty, (Instr.next (.pointer (some ⟨K, 0, none⟩)) true ty).run Tryz.prog wr = .ok (.tuple #[.bool false]) wr := fun ty => run_next_end_at wr K dg dg.size ty hi.out.2.2.2.2 hlt
      clear hlt
      have TC := hi.out.cells
      dsimp only at TC
      obtain ⟨p0, p1, p2, p3, p5, p4⟩ := TC
      go_wp2_with fail
      have KO := Lib.hid (fun w => Of_n 10 w (by decide))
      have KP := Lib.hid (fun n w h => Pow10_c n w h)
      refine (KO.out _).mono ?_
      rintro ee w7 ⟨rfl, hb⟩
      have HI := Lib.hid (hi.out.step hb)
      have HR := Lib.hid ((hr.out.below hb).more hb.size)
      clear hb hn0 hi hr p0 p1 p2 p3 p4 p5
      have HU : u ≤ 9096 := by have := HU0.out; omega
      have HV : v ≤ 9096 := by have := HV0.out; omega
      go_wp2_with fail
      rw [show max ((n : Int) - bh) 0 = ((u : Nat) : Int) by have := HU0.out; omega]
      refine (KP.out _ _ HU).mono ?_
      rintro ee w8 ⟨rfl, hb⟩
      replace HI := Lib.hid (HI.out.step hb)
      replace HR := Lib.hid ((HR.out.below hb).more hb.size)
      clear hb
      go_wp2_with fail
      refine (KO.out _).mono ?_
      rintro ee w9 ⟨rfl, hb⟩
      replace HI := Lib.hid (HI.out.step hb)
      replace HR := Lib.hid ((HR.out.below hb).more hb.size)
      clear hb
      go_wp2_with fail
      rw [show max (-((n : Int) - bh)) 0 = ((v : Nat) : Int) by have := HV0.out; omega]
      refine (KP.out _ _ HV).mono ?_
      rintro ee w10 ⟨rfl, hb⟩
      replace HI := Lib.hid (HI.out.step hb)
      replace HR := Lib.hid ((HR.out.below hb).more hb.size)
      clear hb
      have HX := ten_prod dg HDG.out u (show dg.size + u ≤ 9096 by have := HU0.out; omega)
      obtain ⟨HX1, HX2⟩ := HX
      have HX3 := ten_nd v HV
      have HD0 : 10 ^ v ≠ 0 := Nat.pos_iff_ne_zero.1 (Nat.pow_pos (by omega))
      have KWU := Lib.hid (fun w => Pwords_c (10 ^ u) w (ten_fits _ HU))
      have KWV := Lib.hid (fun w => Pwords_c (10 ^ v) w (ten_fits _ HV))
      generalize 10 ^ u = tu at *
      generalize 10 ^ v = tv at *
      generalize preV dg dg.size = N at *
      have KM := Lib.hid (fun (A A' : Option Addr) (c c' : Nat) (W' : World) (r1 : Row W' W'.heap.size A N (nd W N)) (r2 : Row W' W'.heap.size A' tu (nd W tu)) => Mul_c A A' c c' N tu W'.heap.size W' (by omega) r1 r2 (Nat.le_refl _))
      have KF := Lib.hid (fun (A A' : Option Addr) (c c' : Nat) (W' : World) (hc : nd W (N * tu) ≤ c) (hc' : nd W tv ≤ c') (r1 : Row W' W'.heap.size A (N * tu) (nd W (N * tu))) (r2 : Row W' W'.heap.size A' tv (nd W tv)) => Flow_c neg (N * tu) tv A A' c c' W' HD0 (by omega) (by omega) hc hc' r1 r2)
      clear HX1 HX2 HX3 HD0 KP KO KS HU HV
      have hra : Row w10.drew w10.drew.heap.size A N (nd W N) := HR.out.drewN 1
      have TT := HI.out.drew
      clear HR
      generalize dg.size = kk at *
      have M1 := fun U (hU : VKd ⟨neg, false, dg, pw, bh⟩ w K kk U) => hU.res.2.1
      have M2 := fun U (hU : VKd ⟨neg, false, dg, pw, bh⟩ w K kk U) => hU.res.2.2.1
      have M3 := fun U (hU : VKd ⟨neg, false, dg, pw, bh⟩ w K kk U) => hU.res.2.2.2.1
      have M4 := fun U (hU : VKd ⟨neg, false, dg, pw, bh⟩ w K kk U) => hU.res.2.2.2.2.1
      have M5 := fun U (hU : VKd ⟨neg, false, dg, pw, bh⟩ w K kk U) => hU.res.2.2.2.2.2.1
      have M6 := fun U (hU : VKd ⟨neg, false, dg, pw, bh⟩ w K kk U) => hU.res.2.2.2.2.2.2
      have L0 := fun U (hU : VKd ⟨neg, false, dg, pw, bh⟩ w K kk U) => hU.cells.2.1
      dsimp only at L0
      go_wp2_with fail
      go_region_held3 (VKd ⟨neg, false, dg, pw, bh⟩ w K kk) (first | assumption | exact VKd.step (by assumption) (by assumption) | exact VKd.put (by assumption) _ _ _ | exact VKd.drew (by assumption) | exact VKd.drawn (by assumption) _)
        (first
          | (go_at_call 59; (with_reducible refine (KWU.out _).mono ?_); rintro ee wa hp; obtain ⟨A3, c3, rfl, hc3, hr3, hb3⟩ := hp.get; have hrb := (hra.below hb3).more hb3.size; clear hp hra)
          | (go_at_call 129; (refine (KM.out _ _ _ _ _ hrb hr3).mono ?_); rintro ee wb hp; obtain ⟨A4, c4, rfl, hc4, hr4, hb4⟩ := hp.get; clear hp hrb hr3)
          | (go_at_call 59; (with_reducible refine (KWV.out _).mono ?_); rintro ee wc hp; obtain ⟨A5, c5, rfl, hc5, hr5, hb5⟩ := hp.get; have hrc := (hr4.below hb5).more hb5.size; clear hp hr4)
          | (go_at_call 60; (refine (KF.out _ _ _ _ _ hc4 hc5 hrc hr5).mono ?_); rintro ee wd ⟨rfl, hb6⟩; have HSV := Lib.hid (VKd.step (d := ⟨neg, false, dg, pw, bh⟩) (w := w) (by assumption) hb6)))
      obtain ⟨q0, q1, q2, q3, q4, q5, q6⟩ := HSV.out.res
      have hfin := below_put3 HSV.out.1 (show w.heap.size ≤ w.heap.size + 1 by omega)
      generalize fr neg (N * tu) tv = Q at *
      clear L0 M1 M2 M3 M4 M5 M6 TT KF KM KWU KWV HI
      go_wp2_with fail
      refine bodyPost_ret (v := .tuple #[.agg #[.bool (rsG Q), .string (rsN Q), .string (rsD Q)], .int .i64 (rsE Q)]) (by simp [results, Tryz.results103, go_sem, q0, q1, q2, q3]) rfl ⟨rfl, hfin _ _ _⟩
set_option maxRecDepth 100000 in
set_option maxHeartbeats 2000000 in
theorem PValue_t (neg : Bool) (dg pw : ByteArray) (bh : Nat) (w : World) (hd : Digits pw) (hz : pw.size ≤ 9223372036854775807) (hb5 : bh ≤ 4096) (hdg : Digits dg) (hz2 : dg.size ≤ 4096) (hl : smV pw pw.size ≤ 5000) (u v : Nat) (hu : u = 0) (hv : v = smV pw pw.size + bh) : Calls Tryz.prog 103 #[.agg #[.bool neg, .bool true, .string dg, .string pw, .int .i64 (bh : Nat)]] w (LwPost (fr neg (preV dg dg.size * 10 ^ u) (10 ^ v)) w) := by
  have KS := Lib.hid (fun w => PSmall_c pw w hd hz)
  generalize smV pw pw.size = n at *
  have HDG := Lib.hid hdg
  have HU0 := Lib.hid hu
  have HV0 := Lib.hid hv
  clear hd hdg hu hv
  have T0 := VBd.start ⟨neg, true, dg, pw, bh⟩ w 24
  have TC := T0.cells
  dsimp only [Dm.cells] at TC T0
  obtain ⟨p0, p1, p2, p3, p5, p4⟩ := TC
  go_enter Tryz.func103, Tryz.ntmps103
  go_wp2_with fail
  refine (KS.out _).mono ?_
  rintro ee w1 ⟨rfl, hb⟩
  replace T0 := T0.step hb
  clear hb p0 p1 p2 p3 p4 p5
  have TC := T0.cells
  dsimp only at TC
  obtain ⟨p0, p1, p2, p3, p5, p4⟩ := TC
  go_wp2_with fail
  have T2 := T0.iter
  clear T0 p0 p1 p2 p3 p4 p5
  generalize w1.iter dg 0 = w2 at *
  generalize w1.heap.size = K at *
  go_loopw [5] (fun v wr => ∃ (k c : Nat) (A : Option Addr), v = .slice A (nd W (preV dg k)) c ∧ k ≤ dg.size ∧ Hid (Row wr wr.heap.size A (preV dg k) (nd W (preV dg k))) ∧ Hid (VKd ⟨neg, true, dg, pw, bh⟩ w K k wr)) (fun _ wr => dg.size - itPos wr K)
  case atStart => exact ⟨0, 0, none, by rw [preV_zero, nd_zero], Nat.zero_le _, Lib.hid (by rw [preV_zero, nd_zero]; exact Row.none_), Lib.hid T2⟩
  case round =>
    obtain ⟨k, c, A, rfl, hk, hr, hi⟩ := hrel
    by_cases hlt : k < dg.size
    · have hdk := HDG.out k hlt
      unfold isDig at hdk
      have hsv := preV_succ dg k hlt
      have hn0 : ∀ ty, (Instr.next (.pointer (some ⟨K, 0, none⟩)) true ty).run Tryz.prog wr = .ok (.tuple #[.bool true, .int .i64 (k : Nat), .int .i32 (dg[k].toNat : Nat)]) (wr.iterAt K dg (k + 1)) := fun ty => run_next_ascii_at wr K dg k ty hi.out.2.2.2.2 hlt (by omega)
      have hi2 := hi.out.next (k + 1)
      have hb2 : Row (wr.iterAt K dg (k + 1)) (wr.iterAt K dg (k + 1)).heap.size A (preV dg k) (nd W (preV dg k)) := by rw [iterAt_size]; exact hr.out.iter hi.out.2.2.2.2 (k + 1)
      have hp1 := itPos_of hi.out.2.2.2.2
      have hp2 := itPos_of hi2.2.2.2.2
      revert hn0 hi2 hb2 hsv hp2
      generalize wr.iterAt K dg (k + 1) = wq
      generalize dg[k].toNat = m at *
      intro hsv hn0 hi2 hb2 hp2
      have hput := Put_c A c (preV dg k) 10 (m - 48) wq.heap.size wq (by omega) (by omega) (by have := ten_nd k (by omega); have := nd_mono (b := W) W2 (Nat.le_of_lt (dig_pre HDG.out k hk)); omega) hb2 (Nat.le_refl _)
      rw [show preV dg k * 10 + (m - 48) = preV dg (k + 1) by omega] at hput
      have HPUT := Lib.hid hput
      have HI := Lib.hid hi2
      have HP1 := Lib.hid hp1
      have HP2 := Lib.hid hp2
      have HM : 48 ≤ m ∧ m ≤ 57 := by omega
      clear hsv hi2 hb2 hi hr hp1 hp2 hput
      go_wp2_with fail
      rw [show (m : Int) - 48 = ((m - 48 : Nat) : Int) by omega]
      refine HPUT.out.mono ?_
      rintro ee w4 hp
      obtain ⟨A1, c1, rfl, hc1, hr1, hb1⟩ := hp.get
      have HI2 := Lib.hid (HI.out.step hb1)
      have HP3 := Lib.hid (itPos_of HI2.out.2.2.2.2)
      have HR1 := Lib.hid hr1
      clear hp hr1 hb1 hn0 HPUT
      go_wp2_with fail
      go_round
      case rel => exact ⟨k + 1, c1, A1, rfl, hlt, HR1, HI2⟩
      case measure => rw [HP1.out, HP3.out]; omega
    · have hke : k = dg.size := by omega
      subst hke
      have hn0 : ∀ ty, (Instr.next (.pointer (some ⟨K, 0, none⟩)) true ty).run Tryz.prog wr = .ok (.tuple #[.bool false]) wr := fun ty => run_next_end_at wr K dg dg.size ty hi.out.2.2.2.2 hlt
      clear hlt
      have TC := hi.out.cells
      dsimp only at TC
      obtain ⟨p0, p1, p2, p3, p5, p4⟩ := TC
      go_wp2_with fail
      have KO := Lib.hid (fun w => Of_n 10 w (by decide))
      have KP := Lib.hid (fun n w h => Pow10_c n w h)
      refine (KO.out _).mono ?_
      rintro ee w7 ⟨rfl, hb⟩
      have HI := Lib.hid (hi.out.step hb)
      have HR := Lib.hid ((hr.out.below hb).more hb.size)
      clear hb hn0 hi hr p0 p1 p2 p3 p4 p5
      have HU : u ≤ 9096 := by have := HU0.out; omega
      have HV : v ≤ 9096 := by have := HV0.out; omega
      go_wp2_with fail
      rw [show max (-(n : Int) - bh) 0 = ((u : Nat) : Int) by have := HU0.out; omega]
      refine (KP.out _ _ HU).mono ?_
      rintro ee w8 ⟨rfl, hb⟩
      replace HI := Lib.hid (HI.out.step hb)
      replace HR := Lib.hid ((HR.out.below hb).more hb.size)
      clear hb
      go_wp2_with fail
      refine (KO.out _).mono ?_
      rintro ee w9 ⟨rfl, hb⟩
      replace HI := Lib.hid (HI.out.step hb)
      replace HR := Lib.hid ((HR.out.below hb).more hb.size)
      clear hb
      go_wp2_with fail
      rw [show max (-(-(n : Int) - bh)) 0 = ((v : Nat) : Int) by have := HV0.out; omega]
      refine (KP.out _ _ HV).mono ?_
      rintro ee w10 ⟨rfl, hb⟩
      replace HI := Lib.hid (HI.out.step hb)
      replace HR := Lib.hid ((HR.out.below hb).more hb.size)
      clear hb
      have HX := ten_prod dg HDG.out u (show dg.size + u ≤ 9096 by have := HU0.out; omega)
      obtain ⟨HX1, HX2⟩ := HX
      have HX3 := ten_nd v HV
      have HD0 : 10 ^ v ≠ 0 := Nat.pos_iff_ne_zero.1 (Nat.pow_pos (by omega))
      have KWU := Lib.hid (fun w => Pwords_c (10 ^ u) w (ten_fits _ HU))
      have KWV := Lib.hid (fun w => Pwords_c (10 ^ v) w (ten_fits _ HV))
      generalize 10 ^ u = tu at *
      generalize 10 ^ v = tv at *
      generalize preV dg dg.size = N at *
      have KM := Lib.hid (fun (A A' : Option Addr) (c c' : Nat) (W' : World) (r1 : Row W' W'.heap.size A N (nd W N)) (r2 : Row W' W'.heap.size A' tu (nd W tu)) => Mul_c A A' c c' N tu W'.heap.size W' (by omega) r1 r2 (Nat.le_refl _))
      have KF := Lib.hid (fun (A A' : Option Addr) (c c' : Nat) (W' : World) (hc : nd W (N * tu) ≤ c) (hc' : nd W tv ≤ c') (r1 : Row W' W'.heap.size A (N * tu) (nd W (N * tu))) (r2 : Row W' W'.heap.size A' tv (nd W tv)) => Flow_c neg (N * tu) tv A A' c c' W' HD0 (by omega) (by omega) hc hc' r1 r2)
      clear HX1 HX2 HX3 HD0 KP KO KS HU HV
      have hra : Row w10.drew w10.drew.heap.size A N (nd W N) := HR.out.drewN 1
      have TT := HI.out.drew
      clear HR
      generalize dg.size = kk at *
      have M1 := fun U (hU : VKd ⟨neg, true, dg, pw, bh⟩ w K kk U) => hU.res.2.1
      have M2 := fun U (hU : VKd ⟨neg, true, dg, pw, bh⟩ w K kk U) => hU.res.2.2.1
      have M3 := fun U (hU : VKd ⟨neg, true, dg, pw, bh⟩ w K kk U) => hU.res.2.2.2.1
      have M4 := fun U (hU : VKd ⟨neg, true, dg, pw, bh⟩ w K kk U) => hU.res.2.2.2.2.1
      have M5 := fun U (hU : VKd ⟨neg, true, dg, pw, bh⟩ w K kk U) => hU.res.2.2.2.2.2.1
      have M6 := fun U (hU : VKd ⟨neg, true, dg, pw, bh⟩ w K kk U) => hU.res.2.2.2.2.2.2
      have L0 := fun U (hU : VKd ⟨neg, true, dg, pw, bh⟩ w K kk U) => hU.cells.2.1
      dsimp only at L0
      go_wp2_with fail
      go_region_held3 (VKd ⟨neg, true, dg, pw, bh⟩ w K kk) (first | assumption | exact VKd.step (by assumption) (by assumption) | exact VKd.put (by assumption) _ _ _ | exact VKd.drew (by assumption) | exact VKd.drawn (by assumption) _)
        (first
          | (go_at_call 59; (with_reducible refine (KWU.out _).mono ?_); rintro ee wa hp; obtain ⟨A3, c3, rfl, hc3, hr3, hb3⟩ := hp.get; have hrb := (hra.below hb3).more hb3.size; clear hp hra)
          | (go_at_call 129; (refine (KM.out _ _ _ _ _ hrb hr3).mono ?_); rintro ee wb hp; obtain ⟨A4, c4, rfl, hc4, hr4, hb4⟩ := hp.get; clear hp hrb hr3)
          | (go_at_call 59; (with_reducible refine (KWV.out _).mono ?_); rintro ee wc hp; obtain ⟨A5, c5, rfl, hc5, hr5, hb5⟩ := hp.get; have hrc := (hr4.below hb5).more hb5.size; clear hp hr4)
          | (go_at_call 60; (refine (KF.out _ _ _ _ _ hc4 hc5 hrc hr5).mono ?_); rintro ee wd ⟨rfl, hb6⟩; have HSV := Lib.hid (VKd.step (d := ⟨neg, true, dg, pw, bh⟩) (w := w) (by assumption) hb6)))
      obtain ⟨q0, q1, q2, q3, q4, q5, q6⟩ := HSV.out.res
      have hfin := below_put3 HSV.out.1 (show w.heap.size ≤ w.heap.size + 1 by omega)
      generalize fr neg (N * tu) tv = Q at *
      clear L0 M1 M2 M3 M4 M5 M6 TT KF KM KWU KWV HI
      go_wp2_with fail
      refine bodyPost_ret (v := .tuple #[.agg #[.bool (rsG Q), .string (rsN Q), .string (rsD Q)], .int .i64 (rsE Q)]) (by simp [results, Tryz.results103, go_sem, q0, q1, q2, q3]) rfl ⟨rfl, hfin _ _ _⟩
end Go.Proofs.YtajcapliokblfaaGreatDoor
namespace Go.Proofs.YtajcapliokblfaaGreatDoor
open Go Go.RowKit Nt Go.Lib
theorem digits_list {s : ByteArray} : Digits s ↔ ∀ c ∈ s.data.toList, isDig c := by
  constructor
  · intro h c hc
    obtain ⟨j, hj, rfl⟩ := List.getElem_of_mem hc
    exact h j hj
  · intro h k hk
    exact h _ (List.getElem_mem (l := s.data.toList) hk)
theorem digits_ext {t : ByteArray} {i j e : Nat} (he : e ≤ i) (h : j ≤ zE t e) (hj : j ≤ t.size) : Digits (t.extract i j) := by
  intro k hk
  have hs : (t.extract i j).size = min j t.size - i := ByteArray.size_extract
  rw [ByteArray.getElem_extract]
  have := zE_in t e (i + k) (by omega) (by omega) (by omega)
  unfold isDgB at this
  exact of_decide_eq_true this
theorem digits_app {a b : ByteArray} (ha : Digits a) (hb : Digits b) : Digits (a ++ b) := by
  rw [digits_list] at *
  intro c hc
  rw [ByteArray.data_append, Array.toList_append, List.mem_append] at hc
  exact hc.elim (ha c) (hb c)
theorem digits_nil : Digits ⟨#[]⟩ := fun k h => absurd h (Nat.not_lt_zero _)
theorem zD_dig (t : ByteArray) : Digits (zD t) := by
  unfold zD
  refine digits_app (digits_ext (e := 0) (Nat.le_refl _) (by unfold zN; exact Nat.le_refl _) (zN_le t)) ?_
  split
  · rename_i h
    exact digits_ext (e := zN t + 1) (Nat.le_refl _) (by unfold zM; rw [if_pos h]; exact Nat.le_refl _) (zM_le t)
  · exact digits_nil
theorem zP_dig {t : ByteArray} (h : zOk t) : Digits (zP t) := by
  unfold zP
  split
  · rename_i hx
    exact digits_ext (e := zJ t) (Nat.le_refl _) (by rw [(h.2.2.2.2 hx).2.1]; exact Nat.le_refl _) (Nat.le_refl _)
  · exact digits_nil
theorem zNM (t : ByteArray) : zPt t = true → zN t + 1 ≤ zM t := fun h => by
  unfold zM; rw [if_pos h]; exact zE_ge t _
theorem zD_size (t : ByteArray) : (zD t).size ≤ t.size := by
  have h1 := zN_le t
  have h2 := zM_le t
  unfold zD
  rw [ByteArray.size_append, ByteArray.size_extract]
  split
  · rename_i h
    have := zNM t h
    rw [ByteArray.size_extract]; omega
  · show _ + 0 ≤ _
    omega
theorem zB_le (t : ByteArray) : zB t ≤ t.size := by
  have h2 := zM_le t
  unfold zB
  split <;> omega
theorem zP_size (t : ByteArray) : (zP t).size ≤ t.size := by
  unfold zP
  split
  · rw [ByteArray.size_extract]; omega
  · exact Nat.zero_le _
@[irreducible] noncomputable def dcM (t : ByteArray) : Nat := smV (zP t) (zP t).size
theorem dcM_le (t : ByteArray) : dcM t ≤ 5001 := by unfold dcM; exact smV_le _ _
noncomputable section
open Classical
@[irreducible] def dcU (t : ByteArray) : Nat := if zL t = true then 0 else dcM t - zB t
@[irreducible] def dcV (t : ByteArray) : Nat := if zL t = true then dcM t + zB t else zB t - dcM t
@[irreducible] def dcQ (s : ByteArray) : Rat := fr (begB 45 s) (preV (zD (offB 45 s)) (zD (offB 45 s)).size * 10 ^ dcU (offB 45 s)) (10 ^ dcV (offB 45 s))
def dcOk (s : ByteArray) : Prop := s.size ≤ 4096 ∧ zOk (offB 45 s) ∧ dcM (offB 45 s) ≤ 5000
@[irreducible] def dcG (s : ByteArray) : Bool := if dcOk s then rsG (dcQ s) else false
@[irreducible] def dcN (s : ByteArray) : ByteArray := if dcOk s then rsN (dcQ s) else ⟨#[]⟩
@[irreducible] def dcD (s : ByteArray) : ByteArray := if dcOk s then rsD (dcQ s) else ⟨#[]⟩
@[irreducible] def dcE (s : ByteArray) : Int := if dcOk s then rsE (dcQ s) else if s.size ≤ 4096 ∧ ¬ zOk (offB 45 s) then 40 else 4
end
theorem dc_ok {s : ByteArray} (h : dcOk s) : dcG s = rsG (dcQ s) ∧ dcN s = rsN (dcQ s) ∧ dcD s = rsD (dcQ s) ∧ dcE s = rsE (dcQ s) := by
  unfold dcG dcN dcD dcE; rw [if_pos h, if_pos h, if_pos h, if_pos h]; exact ⟨rfl, rfl, rfl, rfl⟩
theorem dc_no {s : ByteArray} (h : ¬ dcOk s) : dcG s = false ∧ dcN s = ⟨#[]⟩ ∧ dcD s = ⟨#[]⟩ := by
  unfold dcG dcN dcD; rw [if_neg h, if_neg h, if_neg h]; exact ⟨rfl, rfl, rfl⟩
theorem dc_long {s : ByteArray} (h : 4096 < s.size) : dcG s = false ∧ dcN s = ⟨#[]⟩ ∧ dcD s = ⟨#[]⟩ ∧ dcE s = 4 := by
  have hn : ¬ dcOk s := fun c => by have := c.1; omega
  obtain ⟨a, b, c⟩ := dc_no hn
  refine ⟨a, b, c, ?_⟩
  unfold dcE; rw [if_neg hn, if_neg (fun c => by have := c.1; omega)]
theorem dc_bad {s : ByteArray} (h : s.size ≤ 4096) (hz : ¬ zOk (offB 45 s)) : dcG s = false ∧ dcN s = ⟨#[]⟩ ∧ dcD s = ⟨#[]⟩ ∧ dcE s = 40 := by
  have hn : ¬ dcOk s := fun c => hz c.2.1
  obtain ⟨a, b, c⟩ := dc_no hn
  refine ⟨a, b, c, ?_⟩
  unfold dcE; rw [if_neg hn, if_pos ⟨h, hz⟩]
theorem dc_far {s : ByteArray} (h : s.size ≤ 4096) (hz : zOk (offB 45 s)) (hm : ¬ dcM (offB 45 s) ≤ 5000) : dcG s = false ∧ dcN s = ⟨#[]⟩ ∧ dcD s = ⟨#[]⟩ ∧ dcE s = 4 := by
  have hn : ¬ dcOk s := fun c => hm c.2.2
  obtain ⟨a, b, c⟩ := dc_no hn
  refine ⟨a, b, c, ?_⟩
  unfold dcE; rw [if_neg hn, if_neg (fun c => c.2 hz)]
def DcPost (s : ByteArray) (w : World) (e : Ending) (w' : World) : Prop := e = .returned (.tuple #[.agg #[.bool (dcG s), .string (dcN s), .string (dcD s)], .int .i64 (dcE s)]) ∧ Below w.heap.size w w'
theorem PValue_c (s : ByteArray) (w : World) (hs : s.size ≤ 4096) (hz : zOk (offB 45 s)) : Calls Tryz.prog 103 #[.agg #[.bool (begB 45 s), .bool (zL (offB 45 s)), .string (zD (offB 45 s)), .string (zP (offB 45 s)), .int .i64 (zB (offB 45 s) : Nat)]] w (DcPost s w) := by
  have ho := offB_size 45 s
  have h1 := zD_size (offB 45 s)
  have h2 := zP_size (offB 45 s)
  have h3 := zB_le (offB 45 s)
  have hm := dcM_le (offB 45 s)
  have hM : dcM (offB 45 s) = smV (zP (offB 45 s)) (zP (offB 45 s)).size := by unfold dcM; rfl
  by_cases h5 : dcM (offB 45 s) ≤ 5000
  · have hok : dcOk s := ⟨hs, hz, h5⟩
    obtain ⟨e1, e2, e3, e4⟩ := dc_ok hok
    unfold DcPost
    rw [e1, e2, e3, e4]
    unfold dcQ
    cases hl : zL (offB 45 s)
    · exact PValue_f (begB 45 s) _ _ _ w (zP_dig hz) (by omega) (by omega) (zD_dig _) (by omega) (by omega) (dcU (offB 45 s)) (dcV (offB 45 s)) (by unfold dcU; rw [hl, if_neg (by decide), hM]) (by unfold dcV; rw [hl, if_neg (by decide), hM])
    · exact PValue_t (begB 45 s) _ _ _ w (zP_dig hz) (by omega) (by omega) (zD_dig _) (by omega) (by omega) (dcU (offB 45 s)) (dcV (offB 45 s)) (by unfold dcU; rw [hl, if_pos rfl]) (by unfold dcV; rw [hl, if_pos rfl, hM])
  · obtain ⟨e1, e2, e3, e4⟩ := dc_far hs hz h5
    unfold DcPost
    rw [e1, e2, e3, e4]
    exact PValue_long (begB 45 s) _ _ _ _ w (zP_dig hz) (by omega) (by omega) (by omega)
set_option maxRecDepth 100000 in
set_option maxHeartbeats 1000000 in
theorem PDecimal_c (s : ByteArray) (w : World) (hs : s.size + 1 ≤ 9223372036854775807) : Calls Tryz.prog 47 #[.string s] w (DcPost s w) := by
  have T0 := BR.start0 w false (.string ⟨#[]⟩) (.string ⟨#[]⟩) 24
  by_cases h4 : 4096 < s.size
  · obtain ⟨e1, e2, e3, e4⟩ := dc_long h4
    unfold DcPost
    rw [e1, e2, e3, e4]
    obtain ⟨q0, q1, q2, q3, q4, q5, q6⟩ := (Bx3.new w (.bool false) (.string ⟨#[]⟩) (.string ⟨#[]⟩) 24).facts
    have hfin := T0.1
    go_enter Tryz.func47, Tryz.ntmps47
    go_wp2_with fail
    refine bodyPost_ret (v := .tuple #[.agg #[.bool false, .string ⟨#[]⟩, .string ⟨#[]⟩], .int .i64 4]) (by simp [results, Tryz.results47, go_sem, q0, q1, q2, q3]) rfl ⟨rfl, hfin⟩
  · have KS := Lib.hid (fun w => scan_c s w hs)
    by_cases hz : zOk (offB 45 s)
    · have KV := Lib.hid (fun w => PValue_c s w (by omega) hz)
      go_enter Tryz.func47, Tryz.ntmps47
      go_wp2_with fail
      refine (KS.out _).mono ?_
      rintro ee w1 ⟨⟨b1, b2, x1, x2, n1, ok, rfl, ho, hv⟩, hb⟩
      have hok := ho.2 hz
      subst hok
      obtain ⟨r1, r2, r3, r4, r5⟩ := hv rfl
      rw [← r1, ← r2, ← r3, ← r4, ← r5] at KV
      clear hv ho r1 r2 r3 r4 r5
      replace T0 := T0.step hb
      clear hb
      go_wp2_with fail
      refine (KV.out _).mono ?_
      rintro ee w2 ⟨rfl, hb2⟩
      replace T0 := (T0.more _).step hb2
      clear hb2
      obtain ⟨q0, q1, q2, q3, q4, q5, q6⟩ := T0.res0
      have hfin := below_put3 T0.1 (Nat.le_refl _)
      go_wp2_with fail
      refine bodyPost_ret (v := .tuple #[.agg #[.bool (dcG s), .string (dcN s), .string (dcD s)], .int .i64 (dcE s)]) (by simp [results, Tryz.results47, go_sem, q0, q1, q2, q3]) rfl ⟨rfl, hfin _ _ _⟩
    · obtain ⟨e1, e2, e3, e4⟩ := dc_bad (by omega) hz
      unfold DcPost
      rw [e1, e2, e3, e4]
      go_enter Tryz.func47, Tryz.ntmps47
      go_wp2_with fail
      refine (KS.out _).mono ?_
      rintro ee w1 ⟨⟨b1, b2, x1, x2, n1, ok, rfl, ho, hv⟩, hb⟩
      have hok : ok = false := by cases ok with
        | false => rfl
        | true => exact absurd (ho.1 rfl) hz
      subst hok
      clear hv ho
      replace T0 := T0.step hb
      clear hb
      obtain ⟨q0, q1, q2, q3, q4, q5, q6⟩ := T0.res0
      have hfin := below_put3 T0.1 (Nat.le_refl _)
      go_wp2_with fail
      refine bodyPost_ret (v := .tuple #[.agg #[.bool false, .string ⟨#[]⟩, .string ⟨#[]⟩], .int .i64 40]) (by simp [results, Tryz.results47, go_sem, q0, q1, q2, q3]) rfl ⟨rfl, (hfin _ _ _).alloc (by simp [World.setCell]; omega) _⟩
end Go.Proofs.YtajcapliokblfaaGreatDoor
namespace Go.Proofs.YtajcapliokblfaaGreatDoor
open Go Go.RowKit Nt Go.Lib
theorem zE_eq {t : ByteArray} {n : Nat} (hn : n ≤ t.size) (h1 : ∀ k (h : k < t.size), k < n → isDgB t[k] = true) (h2 : ∀ h : n < t.size, isDgB t[n] = false) : zE t 0 = n := by
  have hg := zE_le t 0 (Nat.zero_le _)
  rcases Nat.lt_trichotomy (zE t 0) n with h | h | h
  · have a := zE_out t 0 (Nat.zero_le _) (by omega)
    rw [h1 _ (by omega) h] at a; cases a
  · exact h
  · have a := zE_in t 0 n (Nat.zero_le _) h (by omega)
    rw [h2 (by omega)] at a; cases a
end Go.Proofs.YtajcapliokblfaaGreatDoor
namespace Go.Proofs.YtajcapliokblfaaGreatDoor
open Go Go.RowKit Nt Go.Lib
@[irreducible] noncomputable def zH (t : ByteArray) : ByteArray := t.extract 0 (zN t)
@[irreducible] noncomputable def zT (t : ByteArray) : ByteArray := if zPt t = true then t.extract (zN t + 1) (zM t) else ⟨#[]⟩
@[irreducible] noncomputable def zW (t : ByteArray) : ByteArray := if zX t = true then t.extract (zM t + 1) t.size else ⟨#[48]⟩
def PtP (t : ByteArray) (w : World) (e : Ending) (w' : World) : Prop := (∃ (a b c : ByteArray) (ok : Bool), e = .returned (.tuple #[.string a, .string b, .string c, .bool ok]) ∧ (ok = true ↔ zOk t) ∧ (ok = true → a = zH t ∧ b = zT t ∧ c = zW t)) ∧ Below w.heap.size w w'
theorem PtP.no {t : ByteArray} {a b c : ByteArray} {w w' : World} (h : ¬ zOk t) (hb : Below w.heap.size w w') : PtP t w (.returned (.tuple #[.string a, .string b, .string c, .bool false])) w' := ⟨⟨a, b, c, false, rfl, ⟨fun k => absurd k Bool.false_ne_true, fun k => absurd k h⟩, fun k => absurd k Bool.false_ne_true⟩, hb⟩
theorem PtP.of {t : ByteArray} {a b c : ByteArray} {ok : Bool} {w w' : World} (h : ok = true ↔ zOk t) (h1 : a = zH t) (h2 : b = zT t) (h3 : c = zW t) (hb : Below w.heap.size w w') : PtP t w (.returned (.tuple #[.string a, .string b, .string c, .bool ok])) w' := ⟨⟨a, b, c, ok, rfl, h, fun _ => ⟨h1, h2, h3⟩⟩, hb⟩
end Go.Proofs.YtajcapliokblfaaGreatDoor
namespace Go.Proofs.YtajcapliokblfaaGreatDoor
open Go Go.RowKit Nt
theorem ten_bytes (n : Nat) : nd 256 (10 ^ n) ≤ 5 * (n / 12 + 1) := by
  refine nd_le (by omega) ?_
  have h1 : (10 : Nat) ^ n ≤ 10 ^ (12 * (n / 12 + 1)) := Nat.pow_le_pow_right (by omega) (by omega)
  rw [Nat.pow_mul] at h1
  rw [Nat.pow_mul]
  exact Nat.lt_of_le_of_lt h1 (Nat.pow_lt_pow_left (by decide) (by omega))
theorem num_bytes {s : ByteArray} (h : Digits s) : nd 256 (preV s s.size) ≤ 5 * (s.size / 12 + 1) :=
  Nat.le_trans (nd_mono (by omega) (Nat.le_of_lt (dig_pre h s.size (Nat.le_refl _)))) (ten_bytes _)
theorem dc_fits {s : ByteArray} (h : dcOk s) : Bq (dcQ s) 3900 := by
  obtain ⟨h1, h2, h3⟩ := h
  have hb := zB_le (offB 45 s)
  have ho := offB_size 45 s
  have hd := num_bytes (zD_dig (offB 45 s))
  have hz := zD_size (offB 45 s)
  have hu := ten_bytes (dcU (offB 45 s))
  have hv := ten_bytes (dcV (offB 45 s))
  have hm := dcM_le (offB 45 s)
  have hu2 : dcU (offB 45 s) ≤ 5000 := by unfold dcU; split <;> omega
  have hv2 : dcV (offB 45 s) ≤ 9096 := by unfold dcV; split <;> omega
  unfold dcQ
  refine Bq_fr (Nat.pos_iff_ne_zero.1 (Nat.pow_pos (by omega))) ?_ ?_
  · refine Nat.le_trans (ndB_mul _ _) ?_
    omega
  · omega
end Go.Proofs.YtajcapliokblfaaGreatDoor
namespace Go.Proofs.YtajcapliokblfaaGreatDoor
open Go Go.RowKit Nt
section
variable [Env]
end
theorem dc_fit {s : ByteArray} (h : dcOk s) : qfits (dcQ s) := ⟨fits_nd (dc_fits h).1 (by decide), fits_nd (dc_fits h).2 (by decide)⟩
theorem dc_val {s : ByteArray} (h : dcOk s) : dcG s = qG (dcQ s) ∧ dcN s = natS (qN (dcQ s)) ∧ dcD s = natS (qD (dcQ s)) ∧ dcE s = 0 := by
  obtain ⟨e1, e2, e3, e4⟩ := dc_ok h
  obtain ⟨f1, f2, f3, f4⟩ := rs_ok (dc_fit h)
  rw [e1, e2, e3, e4]; exact ⟨f1, f2, f3, f4⟩
theorem dcE_no {s : ByteArray} (h : ¬ dcOk s) : dcE s ≠ 0 := by
  by_cases h4 : 4096 < s.size
  · rw [(dc_long h4).2.2.2]; decide
  · by_cases hz : zOk (offB 45 s)
    · rw [(dc_far (by omega) hz (fun c => h ⟨by omega, hz, c⟩)).2.2.2]; decide
    · rw [(dc_bad (by omega) hz).2.2.2]; decide
theorem PDec_n (s : ByteArray) (h : ¬ dcOk s) (hz : s.size ≤ 9223372036854775806) (w : World) : Calls Tryz.prog 47 #[.string s] w fun e w' => e = .returned (.tuple #[.agg #[.bool false, .string ⟨#[]⟩, .string ⟨#[]⟩], .int .i64 (dcE s)]) ∧ Below w.heap.size w w' := by
  have := PDecimal_c s w (by omega)
  unfold DcPost at this
  obtain ⟨e1, e2, e3⟩ := dc_no h
  rwa [e1, e2, e3] at this
@[reducible] def PNear_no_f : FuncId := 49
@[reducible] def PNear_no_a : List AV := [.sym 0]
@[reducible] noncomputable def PNear_no_k : Know := ⟨[([0, 12, 30], [.sym 1, .lit (.int .i64 0)], .lit (.bool true))],
  [(47, [.sym 0], .tup [.lit (.agg #[.bool false, .string ⟨#[]⟩, .string ⟨#[]⟩]), .sym 1])]⟩
theorem PNear_no_r1 : @comes PNear_no_k Tryz.prog glT 3000 PNear_no_f PNear_no_a = some (.tup [.lit (.float .f64 0), .sym 1]) := by kernel_rfl
set_option maxRecDepth 100000 in
set_option maxHeartbeats 4000000 in
theorem PNear_no (s : ByteArray) (w : World) (hG : Globs glT w) (h : ¬ dcOk s) (hz : s.size ≤ 9223372036854775806) : Calls Tryz.prog 49 #[.string (s)] w fun e w' => e = .returned (.tuple #[.float .f64 0, .int .i64 (dcE s)]) ∧ Below w.heap.size w w' := by
  have h1 : ¬ (dcE s = 0) := (dcE_no h)
  have i1 : false = true ↔ (dcE s = 0) := ⟨fun k => absurd k Bool.false_ne_true, fun k => absurd k h1⟩
  letI : Env := mkEnv glT [.string (s), .int .i64 (dcE s)] rfl
  have hops : OpsT Tryz.prog (@Know.ops PNear_no_k) := ⟨opt_neq_i rfl rfl i1,
    trivial⟩
  have hcalls : CallsT Tryz.prog (@Know.calls PNear_no_k) := ⟨callt rfl rfl fun w hG => PDec_n s h hz w,
    trivial⟩
  have fin : ∀ v, @comes PNear_no_k Tryz.prog glT 3000 PNear_no_f PNear_no_a = some v → ground v = true → Ending.returned (gval v) = .returned (.tuple #[.float .f64 0, .int .i64 (dcE s)]) → Calls Tryz.prog 49 #[.string (s)] w fun e w' => e = .returned (.tuple #[.float .f64 0, .int .i64 (dcE s)]) ∧ Below w.heap.size w w' := fun v h1 h2 h3 => (@sym_ok _ PNear_no_k _ (@KnowOk.of _ PNear_no_k _ hops hcalls) (by kernel_rfl) _ _ _ _ h1 rfl h2 _ hG).mono fun e w' h => ⟨h.1.trans h3, h.2⟩
  clear hops hcalls
  exact fin _ (PNear_no_r1) rfl rfl
end Go.Proofs.YtajcapliokblfaaGreatDoor
namespace Go.Proofs.YtajcapliokblfaaGreatDoor
open Go Go.RowKit Nt
structure Dx where
  g : Bool
  s : ByteArray
  x : Int
end Go.Proofs.YtajcapliokblfaaGreatDoor
namespace Go.Proofs.YtajcapliokblfaaGreatDoor
open Go Go.RowKit Nt
theorem agree_Of (d : Dx) (hs : d.s.size ≤ 9223372036854775807) : ∃ (r : Rx) (e : Int), (e = 0 ∨ e = 2 ∨ e = 4) ∧
    (∀ w, Calls Tryz.prog 14 #[.agg #[.bool d.g, .string d.s, .int .i64 d.x]] w fun e' w' => e' = .returned (.tuple #[.agg #[.bool r.g, .string r.s, .string r.t], .int .i64 e]) ∧ Below w.heap.size w w') ∧
    (∀ w, Calls Tryz.prog 15 #[.agg #[.bool d.g, .string d.s, .int .i64 d.x]] w fun e' w' => e' = .returned (.tuple #[.agg #[.bool r.g, .string r.s, .string r.t], .int .i64 e]) ∧ Below w.heap.size w w') := by
  obtain ⟨g, s, x⟩ := d
  by_cases hok : DOk g s x
  · rcases hok with ⟨rfl, rfl, rfl⟩ | ⟨n, hf, ho, rfl, h1, h2⟩
    · exact ⟨⟨false, ⟨#[]⟩, ⟨#[1]⟩⟩, 0, Or.inl rfl, fun w => POf_zero w, fun w => rOf_zero w⟩
    · by_cases hx : 0 ≤ x
      · obtain ⟨k, rfl⟩ : ∃ k : Nat, x = (k : Int) := ⟨x.toNat, by omega⟩
        have hk : k ≤ 1048576 := by omega
        by_cases hz : fits (n * 2 ^ k)
        · exact ⟨⟨g, natS (n * 2 ^ k), ⟨#[1]⟩⟩, 0, Or.inl rfl, fun w => POf_p1 g n k hf ho hk hz w, fun w => rOf_p1 g n k hf ho hk hz w⟩
        · exact ⟨⟨false, ⟨#[]⟩, ⟨#[]⟩⟩, 4, Or.inr (Or.inr rfl), fun w => POf_p0 g n k hf ho hk hz w, fun w => rOf_p0 g n k hf ho hk hz w⟩
      · obtain ⟨k, rfl⟩ : ∃ k : Nat, x = -(k : Int) := ⟨(-x).toNat, by omega⟩
        have hk : k ≤ 1048576 := by omega
        have hk0 : 0 < k := by omega
        by_cases hz : fits (1 * 2 ^ k)
        · exact ⟨⟨g, natS n, natS (1 * 2 ^ k)⟩, 0, Or.inl rfl, fun w => POf_n1 g n k hf ho hk hk0 hz w, fun w => rOf_n1 g n k hf ho hk hk0 hz w⟩
        · exact ⟨⟨false, ⟨#[]⟩, ⟨#[]⟩⟩, 4, Or.inr (Or.inr rfl), fun w => POf_n0 g n k hf ho hk hk0 hz w, fun w => rOf_n0 g n k hf ho hk hk0 hz w⟩
  · exact ⟨⟨false, ⟨#[]⟩, ⟨#[]⟩⟩, 2, Or.inr (Or.inl rfl), fun w => POf_bad g s x hok hs w, fun w => rOf_bad g s x hok hs w⟩
end Go.Proofs.YtajcapliokblfaaGreatDoor
namespace Go.Proofs.YtajcapliokblfaaGreatDoor
open Go Go.RowKit Nt Go.Lib
theorem pw_fits {n : Nat} (h : n < 131072) : fits (2 ^ n) := by
  have := pw_nd (n := n) (q := n / 8) (r := n % 8) (by omega) (by omega)
  unfold fits
  omega
theorem pw_fits_not {n : Nat} (h : ¬ n < 131072) : ¬ fits (2 ^ n) := by
  have := pw_nd (n := n) (q := n / 8) (r := n % 8) (by omega) (by omega)
  unfold fits
  omega
theorem fits_3r : fits 3 := by
  unfold fits
  rw [nd_step (by omega) (by omega), show 3 / 256 = 0 by rfl, nd_zero]; omega
theorem natS_3r : natS 3 = ⟨#[3]⟩ := natS_one (by decide) (by decide)
theorem pw_low3 (n : Nat) : Low false (2 ^ n) 3 := ⟨by decide, Nat.Coprime.pow_left n (by decide : Nat.Coprime 2 3), fun _ => rfl⟩
theorem pw_low1 (n : Nat) : Low false (2 ^ n) 1 := ⟨by decide, Nat.gcd_one_right _, fun _ => rfl⟩
theorem pw_mul (n m : Nat) : fr false (2 ^ n) 1 * fr false (2 ^ m) 3 = fr false (2 ^ (n + m)) 3 := by
  obtain ⟨a1, a2, a3⟩ := low_fr (pw_low1 n)
  obtain ⟨b1, b2, b3⟩ := low_fr (pw_low3 m)
  rw [← fr_mul, a1, a2, a3, b1, b2, b3, ← Nat.pow_add]
  rfl
theorem PMul_pw (n m : Nat) (hn : n < 131072) (hm : m < 131072) (w : World) (h : n + m < 131072) : Calls Tryz.prog 24 #[.agg #[.bool false, .string (natS (2 ^ n)), .string ⟨#[1]⟩], .agg #[.bool false, .string (natS (2 ^ m)), .string ⟨#[3]⟩]] w fun e w' => e = .returned (.tuple #[.agg #[.bool false, .string (natS (2 ^ (n + m))), .string ⟨#[3]⟩], .int .i64 0]) ∧ Below w.heap.size w w' := by
  obtain ⟨a1, a2, a3⟩ := low_fr (pw_low1 n)
  obtain ⟨b1, b2, b3⟩ := low_fr (pw_low3 m)
  obtain ⟨c1, c2, c3⟩ := low_fr (pw_low3 (n + m))
  have hp := PMul_c (fr false (2 ^ n) 1) (fr false (2 ^ m) 3) w ⟨by rw [a2]; exact pw_fits hn, by rw [a3]; exact fits_1r⟩ ⟨by rw [b2]; exact pw_fits hm, by rw [b3]; exact fits_3r⟩
  rw [pw_mul] at hp
  obtain ⟨r1, r2, r3, r4⟩ := rs_ok (q := fr false (2 ^ (n + m)) 3) ⟨by rw [c2]; exact pw_fits h, by rw [c3]; exact fits_3r⟩
  unfold LwPost at hp
  rw [r1, r2, r3, r4, c1, c2, c3] at hp
  unfold qv at hp
  rw [a1, a2, a3, b1, b2, b3, natS_1r, natS_3r] at hp
  exact hp
theorem PMul_pw_no (n m : Nat) (hn : n < 131072) (hm : m < 131072) (w : World) (h : ¬ n + m < 131072) : Calls Tryz.prog 24 #[.agg #[.bool false, .string (natS (2 ^ n)), .string ⟨#[1]⟩], .agg #[.bool false, .string (natS (2 ^ m)), .string ⟨#[3]⟩]] w fun e w' => e = .returned (.tuple #[.agg #[.bool false, .string ⟨#[]⟩, .string ⟨#[]⟩], .int .i64 4]) ∧ Below w.heap.size w w' := by
  obtain ⟨a1, a2, a3⟩ := low_fr (pw_low1 n)
  obtain ⟨b1, b2, b3⟩ := low_fr (pw_low3 m)
  obtain ⟨c1, c2, c3⟩ := low_fr (pw_low3 (n + m))
  have hp := PMul_c (fr false (2 ^ n) 1) (fr false (2 ^ m) 3) w ⟨by rw [a2]; exact pw_fits hn, by rw [a3]; exact fits_1r⟩ ⟨by rw [b2]; exact pw_fits hm, by rw [b3]; exact fits_3r⟩
  rw [pw_mul] at hp
  obtain ⟨r1, r2, r3, r4⟩ := rs_no (q := fr false (2 ^ (n + m)) 3) (fun c => pw_fits_not h (c2 ▸ c.1))
  unfold LwPost at hp
  rw [r1, r2, r3, r4] at hp
  unfold qv at hp
  rw [a1, a2, a3, b1, b2, b3, natS_1r, natS_3r] at hp
  exact hp
@[irreducible] def repB (c : UInt8) (L : Nat) : ByteArray := ⟨(List.replicate L c).toArray⟩
theorem repB_size (c : UInt8) (L : Nat) : (repB c L).size = L := by unfold repB; show (Array.size _) = _; simp
theorem repB_list (c : UInt8) (L : Nat) : (repB c L).data.toList = List.replicate L c := by unfold repB; rfl
theorem repB_get (c : UInt8) (L k : Nat) (h : k < (repB c L).size) : (repB c L)[k] = c := by
  have h2 : k < L := by rwa [repB_size] at h
  have e : (repB c L).data.toList[k]'h = (repB c L)[k] := rfl
  rw [← e]
  have : ∀ (l : List UInt8) (hl : l = List.replicate L c) (hk : k < l.length), l[k] = c := by
    intro l hl hk; subst hl; simp
  exact this _ (repB_list c L) _
theorem rep_conv {w : World} {g L : Nat} {c : UInt8} (h : Blk w g 5 (fcells .u8 (fun _ => c.toNat) L)) (o k : Nat) (hk : o + k ≤ L) : (convert 64 9 (.slice (some ⟨g, o, none⟩) k k)).run Tryz.prog w = .ok (.string (repB c k)) w := by
  have hl : (List.replicate k c).length = k := by simp
  have hh := run_convert_bytes_back (P := Tryz.prog) w 64 9 5 ⟨g, o, none⟩ k (List.replicate k c) Tryz.underlying64 Tryz.underlying5 Tryz.underlying9 (fun j hj => by
    have hj2 : j < k := by rwa [hl] at hj
    have e : (⟨g, o, none⟩ : Addr).add j = ⟨g, o + j, none⟩ := by
      unfold Addr.add; split
      · rename_i hz; subst hz; rfl
      · rfl
    rw [e, h.cell, fcells_get _ _ _ _ (by omega)]
    simp)
  rw [hl] at hh
  unfold repB
  exact hh
theorem begB_rep {c d : UInt8} (h : c ≠ d) (L : Nat) : ¬ begB d (repB c L) = true := fun k => by
  obtain ⟨h0, h1⟩ := begB_iff.1 k
  rw [repB_get] at h1
  exact h h1
theorem hasB_rep {c d : UInt8} (h : c ≠ d) (L : Nat) : ¬ hasB d (repB c L) = true := fun k => by
  have hi := hasB_iff.1 k
  have := (ixB_get d (repB c L) _ hi).2 rfl
  rw [repB_get] at this
  exact h this
theorem dc_ones (L : Nat) (h1 : 0 < L) (h2 : L ≤ 4096) : dcE (repB 49 L) = 0 := by
  have ho : offB 45 (repB 49 L) = repB 49 L := offB_f (begB_rep (by decide) L)
  have hs := repB_size 49 L
  have hN : zN (repB 49 L) = L := by
    unfold zN
    refine zE_eq (by omega) (fun k hk hkL => by rw [repB_get]; rfl) (fun hk => by omega)
  have hPt : ¬ zPt (repB 49 L) = true := fun c => by
    obtain ⟨h0, _⟩ := zPt_iff.1 c
    omega
  have hM : zM (repB 49 L) = L := by rw [zM_f hPt]; exact hN
  have hX : ¬ zX (repB 49 L) = true := fun c => by
    obtain ⟨h0, _⟩ := zX_iff.1 c
    omega
  have hok : zOk (repB 49 L) := by
    refine ⟨by omega, Or.inr (fun ⟨h0, e⟩ => ?_), fun c => absurd c hPt, fun _ => by omega, fun c => absurd c hX⟩
    rw [repB_get] at e
    exact absurd e (by decide)
  have hP : zP (repB 49 L) = ⟨#[]⟩ := by unfold zP; rw [if_neg hX]
  have hm : dcM (repB 49 L) = 0 := by
    unfold dcM
    rw [hP]
    exact smV_zero _
  exact (dc_val (s := repB 49 L) ⟨by omega, by rw [ho]; exact hok, by rw [ho, hm]; omega⟩).2.2.2
theorem rd_exes (L : Nat) (h1 : 0 < L) : rdR (repB 120 L) = Rx.nul ∧ rdE (repB 120 L) = 40 := by
  refine rd_no (fun c => ?_)
  have e := c.1
  rw [offB_f (begB_rep (by decide) L), (cut_split 47 (repB 120 L)).2 (hasB_rep (by decide) L)] at e
  unfold rtE at e
  rw [if_neg (fun hv => ?_)] at e
  · exact absurd e (by decide)
  · have := hv.2.1 0 (by rw [repB_size]; exact h1)
    rw [repB_get] at this
    exact absurd this.2 (by decide)
end Go.Proofs.YtajcapliokblfaaGreatDoor
namespace Go.Proofs.YtajcapliokblfaaGreatDoor
open Go Go.RowKit Nt Go.Lib
theorem rat_cells {w : World} {B : Nat} {t : TypeId} {x y z : Value} (h : Blk w B t #[x, y, z]) : w.cell? ⟨B, 0, none⟩ = some x ∧ w.cell? ⟨B, 1, none⟩ = some y ∧ w.cell? ⟨B, 2, none⟩ = some z := ⟨h.cell 0, h.cell 1, h.cell 2⟩
def BxW (w : World) (g : Nat) (x y z : Value) (W : World) : Prop := Blk W g 24 #[x, y, z] ∧ Below w.heap.size w W
theorem BxW.step {w : World} {g : Nat} {x y z : Value} {W W' : World} (h : BxW w g x y z W) (hb : Below W.heap.size W W') : BxW w g x y z W' := ⟨h.1.below hb h.1.lt, below_chain h.2 hb⟩
theorem BxW.drew {w : World} {g : Nat} {x y z : Value} {W : World} (h : BxW w g x y z W) : BxW w g x y z W.drew := h.step (Below.refl _ _).drew
theorem BxW.drawn {w : World} {g : Nat} {x y z : Value} {W : World} (h : BxW w g x y z W) (n : Nat) : BxW w g x y z (W.drewN n) := h.step (below_drewN (Below.refl _ _) n)
set_option maxRecDepth 100000 in
set_option maxHeartbeats 2000000 in
theorem RLong_ok (n m x N0 M0 : Int) (A1 B1 C1 : ByteArray) (w : World)
    (e1 : n.tmod 31000 = N0) (hN : -31000 < N0) (hN2 : N0 < 31000) (e2 : m.tmod 60000 = M0) (hM : 0 ≤ M0) (hM2 : M0 < 60000) (hs : 100000 + N0 + M0 < 131072)
    (KP1 : ∀ w, Calls Tryz.prog 51 #[.int .i64 (100000 + N0)] w fun e w' => e = .returned (.string A1) ∧ Below w.heap.size w w')
    (KP2 : ∀ w, Calls Tryz.prog 51 #[.int .i64 M0] w fun e w' => e = .returned (.string B1) ∧ Below w.heap.size w w')
    (KP3 : ∀ w, Calls Tryz.prog 51 #[.int .i64 (100000 + N0 + M0)] w fun e w' => e = .returned (.string C1) ∧ Below w.heap.size w w')
    (KM : ∀ w, Calls Tryz.prog 24 #[.agg #[.bool false, .string A1, .string ⟨#[1]⟩], .agg #[.bool false, .string B1, .string ⟨#[3]⟩]] w fun e w' => e = .returned (.tuple #[.agg #[.bool false, .string C1, .string ⟨#[3]⟩], .int .i64 0]) ∧ Below w.heap.size w w')
    (d1g d0g f1g : Bool) (d1s d1t d0s d0t f1s f1t : ByteArray) (fx : Nat)
    (KD1 : ∀ w, Calls Tryz.prog 47 #[.string (repB 49 4097)] w fun e w' => e = .returned (.tuple #[.agg #[.bool d1g, .string d1s, .string d1t], .int .i64 4]) ∧ Below w.heap.size w w')
    (KD0 : ∀ w, Calls Tryz.prog 47 #[.string (repB 49 4096)] w fun e w' => e = .returned (.tuple #[.agg #[.bool d0g, .string d0s, .string d0t], .int .i64 0]) ∧ Below w.heap.size w w')
    (KN : ∀ U, Below w.heap.size w U → Calls Tryz.prog 49 #[.string (repB 49 4097)] U fun e w' => e = .returned (.tuple #[.float .f64 fx, .int .i64 4]) ∧ Below U.heap.size U w')
    (KR1 : ∀ U, Below w.heap.size w U → Calls Tryz.prog 45 #[.string (repB 120 80001)] U fun e w' => e = .returned (.tuple #[.agg #[.bool f1g, .string f1s, .string f1t], .int .i64 4]) ∧ Below U.heap.size U w')
    (KR0 : ∀ U, Below w.heap.size w U → Calls Tryz.prog 45 #[.string (repB 120 80000)] U fun e w' => e = .returned (.tuple #[.agg #[.bool false, .string ⟨#[]⟩, .string ⟨#[]⟩], .int .i64 40]) ∧ Below U.heap.size U w')
    (KL : ∀ U, Below w.heap.size w U → Calls Tryz.prog 11 #[] U fun e w' => e = .returned (.bool true) ∧ Below U.heap.size U w')
    (rg : Bool) (rs rt : ByteArray) (re : Int)
    (KO : ∀ w, Calls Tryz.prog 14 #[.agg #[.bool false, .string ⟨#[1]⟩, .int .i64 x]] w fun e w' => e = .returned (.tuple #[.agg #[.bool rg, .string rs, .string rt], .int .i64 re]) ∧ Below w.heap.size w w')
    (KS : ∀ w, Calls Tryz.prog 15 #[.agg #[.bool false, .string ⟨#[1]⟩, .int .i64 x]] w fun e w' => e = .returned (.tuple #[.agg #[.bool rg, .string rs, .string rt], .int .i64 re]) ∧ Below w.heap.size w w') :
    Calls Tryz.prog 7 #[.int .i64 n, .int .i64 m, .int .i64 x] w fun e w' => e = .returned (.bool true) ∧ Below w.heap.size w w' := by
  have K1 := Lib.hid KP1
  have K2 := Lib.hid KP2
  have K3 := Lib.hid KP3
  have K4 := Lib.hid KM
  replace KD1 := Lib.hid KD1
  replace KD0 := Lib.hid KD0
  replace KN := Lib.hid KN
  replace KR1 := Lib.hid KR1
  replace KR0 := Lib.hid KR0
  replace KL := Lib.hid KL
  have KO := Lib.hid KO
  have KS := Lib.hid KS
  obtain ⟨i0, hi0, hz0, hz1, hz2⟩ := info_parts (P := Tryz.prog) (e := 5) (z := .int .u8 0) (size := 1) (bytes := 1) (by kernel_rfl)
  clear KP1 KP2 KP3 KM
  go_enter Tryz.func7, Tryz.ntmps7
  go_upto_region 6 with (first
    | (go_at_call 51; (with_reducible refine (K1.out _).mono ?_); rintro ee w1 ⟨rfl, hb1⟩)
    | (go_at_call 51; (with_reducible refine (K2.out _).mono ?_); rintro ee w2 ⟨rfl, hb2⟩))
  have PA0 := Blk.new w1 24 #[.bool false, .string A1, .string ⟨#[1]⟩]
  have PA := (PA0.below hb2 PA0.lt).alloc (.cells #[.bool false, .string B1, .string ⟨#[3]⟩] 24)
  have PB := Blk.new w2 24 #[.bool false, .string B1, .string ⟨#[3]⟩]
  have HB0 := below_chain (hb1.alloc hb1.size (.cells #[.bool false, .string A1, .string ⟨#[1]⟩] 24)) hb2
  have HB := Lib.hid (HB0.alloc HB0.size (.cells #[.bool false, .string B1, .string ⟨#[3]⟩] 24))
  clear HB0 PA0 hb1 hb2 K1 K2
  generalize w2.alloc (.cells #[.bool false, .string B1, .string ⟨#[3]⟩] 24) = w3 at *
  generalize w1.heap.size = g1 at *
  generalize w2.heap.size = g2 at *
  obtain ⟨a0, a1, a2⟩ := rat_cells PA
  obtain ⟨b0, b1, b2⟩ := rat_cells PB
  clear PA PB
  go_upto_region 7 with (first
    | (go_at_call 24; (with_reducible refine (K4.out _).mono ?_); rintro ee w4 ⟨rfl, hb4⟩))
  clear a0 a1 a2 b0 b1 b2 K4
  have PC := Blk.new w4 24 #[.bool false, .string C1, .string ⟨#[3]⟩]
  have HB1 := below_chain HB.out hb4
  have HC : Hid (Below w.heap.size w (w4.alloc (.cells #[.bool false, .string C1, .string ⟨#[3]⟩] 24))) := Lib.hid (HB1.alloc HB1.size _)
  clear HB HB1 hb4
  generalize w4.alloc (.cells #[.bool false, .string C1, .string ⟨#[3]⟩] 24) = w5 at *
  generalize w4.heap.size = g3 at *
  go_upto_region 8 with fail
  obtain ⟨c0, c1, c2⟩ := rat_cells PC
  have TD : BxW w g3 (.bool false) (.string C1) (.string ⟨#[3]⟩) w5 := ⟨PC, HC.out⟩
  clear PC HC
  have TD2 := TD.drew
  have L1 : ∀ U, BxW w g3 (.bool false) (.string C1) (.string ⟨#[3]⟩) U → U.cell? ⟨g3, 1, none⟩ = some (.string C1) := fun U h => h.1.cell 1
  have L2 : ∀ U, BxW w g3 (.bool false) (.string C1) (.string ⟨#[3]⟩) U → U.cell? ⟨g3, 2, none⟩ = some (.string ⟨#[3]⟩) := fun U h => h.1.cell 2
  have l1 : IntKind.i64.wrap (100000 + N0 + M0) = 100000 + N0 + M0 := IntWalk.i64_in _ (by omega)
  go_region_held3 (BxW w g3 (.bool false) (.string C1) (.string ⟨#[3]⟩)) (first | assumption | exact BxW.step (by assumption) (by assumption) | exact BxW.drew (by assumption) | exact BxW.drawn (by assumption) _)
    (first
      | (go_at_call 51; (with_reducible refine (K3.out _).mono ?_); rintro ee w6 ⟨rfl, hb6⟩))
  rename_i hHeld
  have HB := Lib.hid hHeld.2
  clear hHeld L1 L2 l1 TD TD2 c0 c1 c2 hb6 K3
  go_upto_region 14 with (first
    | (go_at_call 14; (with_reducible refine (KO.out _).mono ?_); rintro ee w7 ⟨rfl, hb7⟩)
    | (go_at_call 15; (with_reducible refine (KS.out _).mono ?_); rintro ee w8 ⟨rfl, hb8⟩))
  have PA0 := Blk.new w7 24 #[.bool rg, .string rs, .string rt]
  have PA := (PA0.below hb8 PA0.lt).alloc (.cells #[.bool rg, .string rs, .string rt] 24)
  have PB := Blk.new w8 24 #[.bool rg, .string rs, .string rt]
  have HB1 := below_chain HB.out hb7
  have HB2 := below_chain (HB1.alloc HB1.size (.cells #[.bool rg, .string rs, .string rt] 24)) hb8
  have HD := Lib.hid (HB2.alloc HB2.size (.cells #[.bool rg, .string rs, .string rt] 24))
  clear HB HB1 HB2 PA0 hb7 hb8 KO KS
  generalize w8.alloc (.cells #[.bool rg, .string rs, .string rt] 24) = w9 at *
  generalize w7.heap.size = g4 at *
  generalize w8.heap.size = g5 at *
  obtain ⟨a0, a1, a2⟩ := rat_cells PA
  obtain ⟨b0, b1, b2⟩ := rat_cells PB
  clear PA PB
  go_upto_region 16 with fail
  clear a0 a1 a2 b0 b1 b2
  go_upto_region 17 with (first | (at_make; go_loud (refine wpList_make_zero _ rfl (.const (.int .i64 4097)) (.const (.int .i64 4097)) _ rfl 5 i0 _ Tryz.underlying64 hi0 hz0 hz1 .i64 .i64 _ _ 4097 rfl rfl rfl rfl (by rw [hz2]; omega) (by unfold maxLen; omega) ?_)))
  rw [fcells_made]
  have BA := Lib.hid (Blk.new w9 5 (fcells .u8 (fun _ => 0) 4097))
  have G6 := Lib.hid HD.out.size
  have HA := Lib.hid (HD.out.alloc HD.out.size (.cells (fcells .u8 (fun _ => 0) 4097) 5))
  clear HD
  generalize w9.alloc (.cells (fcells .u8 (fun _ => 0) 4097) 5) = wa at *
  generalize w9.heap.size = g6 at *
  go_wp2_with fail
  go_loopw [16] (fun v wr => ∃ k : Nat, v = .int .i64 (k : Nat) ∧ k ≤ 4097 ∧ Hid (Blk wr g6 5 (fcells .u8 (fun j => if j < k then 49 else 0) 4097)) ∧ Hid (Below w.heap.size w wr)) (fun v _ => 4097 - (RowKit.intOf v).toNat)
  case atStart => exact ⟨0, rfl, Nat.zero_le _, Lib.hid (by rw [fcells_congr (f' := fun _ => 0) (fun j _ => if_neg (Nat.not_lt_zero j))]; exact BA.out), HA⟩
  case round =>
    obtain ⟨k, rfl, hk, hblk, hbw⟩ := hrel
    by_cases hlt : k < 4097
    · have hfz := hblk.out.frozen k
      have hck := hblk.out.cell k
      rw [fcells_get _ _ _ _ hlt] at hck
      have HN1 : Hid (Blk (World.setCell _ ⟨g6, k, none⟩ (.int .u8 49)) g6 5 (fcells .u8 (fun j => if j < k + 1 then 49 else 0) 4097)) := Lib.hid (by
        have h := hblk.out.set_ k (.int .u8 ((49 : Nat) : Int))
        rw [fcells_set, fcells_congr (f' := fun j => if j < k + 1 then 49 else 0) (fun j _ => by
          by_cases h1 : j = k
          · subst h1; rw [if_pos rfl, if_pos (by omega)]
          · rw [if_neg h1]
            by_cases h2 : j < k
            · rw [if_pos h2, if_pos (by omega)]
            · rw [if_neg h2, if_neg (by omega)])] at h
        exact h)
      have HN2 := Lib.hid (hbw.out.setCell (p := ⟨g6, k, none⟩) G6.out (.int .u8 49))
      clear hblk hbw
      go_wp2_with fail
      go_roundw
      case rel => exact ⟨k + 1, by go_num, hlt, HN1, HN2⟩
      case measure => simp [RowKit.intOf]; omega
    · have hke : k = 4097 := by omega
      subst hke
      have BL := Lib.hid hblk.out
      rw [fcells_congr (k := .u8) (f := fun j => if j < 4097 then 49 else 0) (f' := fun _ => (49 : UInt8).toNat) (L := 4097) (fun j hj => if_pos hj)] at BL
      have HL := Lib.hid hbw.out
      clear hblk hbw hlt hk
      have hcv1 := rep_conv BL.out 0 4097 (by omega)
      go_wp2_with (first
        | (go_at_call 47; (with_reducible refine (KD1.out _).mono ?_); rintro ee wb ⟨rfl, hbb⟩; have B2 := (BL.out.below hbb BL.out.lt).alloc (.cells #[.bool d1g, .string d1s, .string d1t] 24); have H2 := below_chain HL.out hbb; have H3 := H2.alloc H2.size (.cells #[.bool d1g, .string d1s, .string d1t] 24); have hcv2 := rep_conv B2 1 4096 (by omega))
        | (go_at_call 47; (with_reducible refine (KD0.out _).mono ?_); rintro ee wc ⟨rfl, hbc⟩; have B4 := (B2.below hbc B2.lt).alloc (.cells #[.bool d0g, .string d0s, .string d0t] 24); have H4 := below_chain H3 hbc; have H5 := H4.alloc H4.size (.cells #[.bool d0g, .string d0s, .string d0t] 24); have hcv3 := rep_conv B4 0 4097 (by omega))
        | (go_at_call 49; (with_reducible refine (KN.out _ H5).mono ?_); rintro ee wd ⟨rfl, hbd⟩; have HE := Lib.hid (below_chain H5 hbd); clear B2 H2 H3 hcv2 B4 H4 H5 hcv3 hbb hbc hbd hcv1)
        | (at_make; go_loud (refine wpList_make_zero _ rfl (.const (.int .i64 80001)) (.const (.int .i64 80001)) _ rfl 5 i0 _ Tryz.underlying64 hi0 hz0 hz1 .i64 .i64 _ _ 80001 rfl rfl rfl rfl (by rw [hz2]; omega) (by unfold maxLen; omega) ?_)))
      generalize hLW : (80001 : Nat) = LW
      have HLW := Lib.hid hLW
      have hLW1 : 1 ≤ LW := by omega
      have hLW2 : ¬ LW = 1 := by omega
      have hLWm : LW ≤ 100000 := by omega
      clear hLW
      have KQ1 : Hid (∀ U, Below w.heap.size w U → Calls Tryz.prog 45 #[.string (repB 120 LW)] U fun e w' => e = .returned (.tuple #[.agg #[.bool f1g, .string f1s, .string f1t], .int .i64 4]) ∧ Below U.heap.size U w') := Lib.hid (by rw [← HLW.out]; exact KR1.out)
      have KQ0 : Hid (∀ U, Below w.heap.size w U → Calls Tryz.prog 45 #[.string (repB 120 (LW - 1))] U fun e w' => e = .returned (.tuple #[.agg #[.bool false, .string ⟨#[]⟩, .string ⟨#[]⟩], .int .i64 40]) ∧ Below U.heap.size U w') := Lib.hid (by rw [← HLW.out]; exact KR0.out)
      clear KR1 KR0
      rw [fcells_made]
      have BX := Lib.hid (Blk.new wd 5 (fcells .u8 (fun _ => 0) LW))
      have G7 := Lib.hid HE.out.size
      have HX := Lib.hid (HE.out.alloc HE.out.size (.cells (fcells .u8 (fun _ => 0) LW) 5))
      clear HE
      generalize wd.alloc (.cells (fcells .u8 (fun _ => 0) LW) 5) = we at *
      generalize wd.heap.size = g7 at *
      go_loopw [24] (fun v wr => ∃ k : Nat, v = .int .i64 (k : Nat) ∧ k ≤ LW ∧ Hid (Blk wr g7 5 (fcells .u8 (fun j => if j < k then 120 else 0) LW)) ∧ Hid (Below w.heap.size w wr)) (fun v _ => LW - (RowKit.intOf v).toNat)
      case atStart => exact ⟨0, rfl, Nat.zero_le _, Lib.hid (by rw [fcells_congr (f' := fun _ => 0) (fun j _ => if_neg (Nat.not_lt_zero j))]; exact BX.out), HX⟩
      case round =>
        obtain ⟨k, rfl, hk, hblk, hbw⟩ := hrel
        by_cases hlt : k < LW
        · have hfz := hblk.out.frozen k
          have hck := hblk.out.cell k
          rw [fcells_get _ _ _ _ hlt] at hck
          have HN1 : Hid (Blk (World.setCell _ ⟨g7, k, none⟩ (.int .u8 120)) g7 5 (fcells .u8 (fun j => if j < k + 1 then 120 else 0) LW)) := Lib.hid (by
            have h := hblk.out.set_ k (.int .u8 ((120 : Nat) : Int))
            rw [fcells_set, fcells_congr (f' := fun j => if j < k + 1 then 120 else 0) (fun j _ => by
              by_cases h1 : j = k
              · subst h1; rw [if_pos rfl, if_pos (by omega)]
              · rw [if_neg h1]
                by_cases h2 : j < k
                · rw [if_pos h2, if_pos (by omega)]
                · rw [if_neg h2, if_neg (by omega)])] at h
            exact h)
          have HN2 := Lib.hid (hbw.out.setCell (p := ⟨g7, k, none⟩) G7.out (.int .u8 120))
          clear hblk hbw
          go_wp2_with fail
          go_roundw
          case rel => exact ⟨k + 1, by go_num, hlt, HN1, HN2⟩
          case measure => simp [RowKit.intOf]; omega
        · have hke : LW = k := by omega
          subst hke
          have BM := Lib.hid hblk.out
          rw [fcells_congr (k := .u8) (f := fun j => if j < LW then 120 else 0) (f' := fun _ => (120 : UInt8).toNat) (L := LW) (fun j hj => if_pos hj)] at BM
          have HM2 := Lib.hid hbw.out
          clear hblk hbw hlt hk
          have hcv1 := rep_conv BM.out 0 LW (by omega)
          go_wp2_with (first
            | (go_at_call 45; (with_reducible refine (KQ1.out _ HM2.out).mono ?_); rintro ee wf ⟨rfl, hbf⟩; have B2 := (BM.out.below hbf BM.out.lt).alloc (.cells #[.bool f1g, .string f1s, .string f1t] 24); have H2 := below_chain HM2.out hbf; have H3 := H2.alloc H2.size (.cells #[.bool f1g, .string f1s, .string f1t] 24); have hcv2 := rep_conv B2 1 (LW - 1) (by omega))
            | (go_at_call 45; (with_reducible refine (KQ0.out _ H3).mono ?_); rintro ee wg ⟨rfl, hbg⟩; have H4 := below_chain H3 hbg; have H5 := H4.alloc H4.size (.cells #[.bool false, .string ⟨#[]⟩, .string ⟨#[]⟩] 24))
            | (go_at_call 11; (with_reducible refine (KL.out _ H5).mono ?_); rintro ee wh ⟨rfl, hbh⟩; have H6 := below_chain H5 hbh))
          clear B2 hcv2 hcv1 BM BX HX BA BL HL HA H2 H3 H4 H5 hbf hbg hbh
          refine bodyPost_ret (v := .bool true) (by simp [results, Tryz.results7, go_sem]) rfl ⟨rfl, H6⟩
set_option maxRecDepth 100000 in
set_option maxHeartbeats 2000000 in
theorem RLong_no (n m x N0 M0 : Int) (A1 B1 : ByteArray) (w : World)
    (e1 : n.tmod 31000 = N0) (hN : -31000 < N0) (hN2 : N0 < 31000) (e2 : m.tmod 60000 = M0) (hM : 0 ≤ M0) (hM2 : M0 < 60000) (hs : ¬ 100000 + N0 + M0 < 131072)
    (KP1 : ∀ w, Calls Tryz.prog 51 #[.int .i64 (100000 + N0)] w fun e w' => e = .returned (.string A1) ∧ Below w.heap.size w w')
    (KP2 : ∀ w, Calls Tryz.prog 51 #[.int .i64 M0] w fun e w' => e = .returned (.string B1) ∧ Below w.heap.size w w')
    (KM : ∀ w, Calls Tryz.prog 24 #[.agg #[.bool false, .string A1, .string ⟨#[1]⟩], .agg #[.bool false, .string B1, .string ⟨#[3]⟩]] w fun e w' => e = .returned (.tuple #[.agg #[.bool false, .string ⟨#[]⟩, .string ⟨#[]⟩], .int .i64 4]) ∧ Below w.heap.size w w')
    (d1g d0g f1g : Bool) (d1s d1t d0s d0t f1s f1t : ByteArray) (fx : Nat)
    (KD1 : ∀ w, Calls Tryz.prog 47 #[.string (repB 49 4097)] w fun e w' => e = .returned (.tuple #[.agg #[.bool d1g, .string d1s, .string d1t], .int .i64 4]) ∧ Below w.heap.size w w')
    (KD0 : ∀ w, Calls Tryz.prog 47 #[.string (repB 49 4096)] w fun e w' => e = .returned (.tuple #[.agg #[.bool d0g, .string d0s, .string d0t], .int .i64 0]) ∧ Below w.heap.size w w')
    (KN : ∀ U, Below w.heap.size w U → Calls Tryz.prog 49 #[.string (repB 49 4097)] U fun e w' => e = .returned (.tuple #[.float .f64 fx, .int .i64 4]) ∧ Below U.heap.size U w')
    (KR1 : ∀ U, Below w.heap.size w U → Calls Tryz.prog 45 #[.string (repB 120 80001)] U fun e w' => e = .returned (.tuple #[.agg #[.bool f1g, .string f1s, .string f1t], .int .i64 4]) ∧ Below U.heap.size U w')
    (KR0 : ∀ U, Below w.heap.size w U → Calls Tryz.prog 45 #[.string (repB 120 80000)] U fun e w' => e = .returned (.tuple #[.agg #[.bool false, .string ⟨#[]⟩, .string ⟨#[]⟩], .int .i64 40]) ∧ Below U.heap.size U w')
    (KL : ∀ U, Below w.heap.size w U → Calls Tryz.prog 11 #[] U fun e w' => e = .returned (.bool true) ∧ Below U.heap.size U w')
    (rg : Bool) (rs rt : ByteArray) (re : Int)
    (KO : ∀ w, Calls Tryz.prog 14 #[.agg #[.bool false, .string ⟨#[1]⟩, .int .i64 x]] w fun e w' => e = .returned (.tuple #[.agg #[.bool rg, .string rs, .string rt], .int .i64 re]) ∧ Below w.heap.size w w')
    (KS : ∀ w, Calls Tryz.prog 15 #[.agg #[.bool false, .string ⟨#[1]⟩, .int .i64 x]] w fun e w' => e = .returned (.tuple #[.agg #[.bool rg, .string rs, .string rt], .int .i64 re]) ∧ Below w.heap.size w w') :
    Calls Tryz.prog 7 #[.int .i64 n, .int .i64 m, .int .i64 x] w fun e w' => e = .returned (.bool true) ∧ Below w.heap.size w w' := by
  have K1 := Lib.hid KP1
  have K2 := Lib.hid KP2
  have K4 := Lib.hid KM
  replace KD1 := Lib.hid KD1
  replace KD0 := Lib.hid KD0
  replace KN := Lib.hid KN
  replace KR1 := Lib.hid KR1
  replace KR0 := Lib.hid KR0
  replace KL := Lib.hid KL
  have KO := Lib.hid KO
  have KS := Lib.hid KS
  obtain ⟨i0, hi0, hz0, hz1, hz2⟩ := info_parts (P := Tryz.prog) (e := 5) (z := .int .u8 0) (size := 1) (bytes := 1) (by kernel_rfl)
  clear KP1 KP2 KM
  go_enter Tryz.func7, Tryz.ntmps7
  go_upto_region 6 with (first
    | (go_at_call 51; (with_reducible refine (K1.out _).mono ?_); rintro ee w1 ⟨rfl, hb1⟩)
    | (go_at_call 51; (with_reducible refine (K2.out _).mono ?_); rintro ee w2 ⟨rfl, hb2⟩))
  have PA0 := Blk.new w1 24 #[.bool false, .string A1, .string ⟨#[1]⟩]
  have PA := (PA0.below hb2 PA0.lt).alloc (.cells #[.bool false, .string B1, .string ⟨#[3]⟩] 24)
  have PB := Blk.new w2 24 #[.bool false, .string B1, .string ⟨#[3]⟩]
  have HB0 := below_chain (hb1.alloc hb1.size (.cells #[.bool false, .string A1, .string ⟨#[1]⟩] 24)) hb2
  have HB := Lib.hid (HB0.alloc HB0.size (.cells #[.bool false, .string B1, .string ⟨#[3]⟩] 24))
  clear HB0 PA0 hb1 hb2 K1 K2
  generalize w2.alloc (.cells #[.bool false, .string B1, .string ⟨#[3]⟩] 24) = w3 at *
  generalize w1.heap.size = g1 at *
  generalize w2.heap.size = g2 at *
  obtain ⟨a0, a1, a2⟩ := rat_cells PA
  obtain ⟨b0, b1, b2⟩ := rat_cells PB
  clear PA PB
  go_upto_region 7 with (first
    | (go_at_call 24; (with_reducible refine (K4.out _).mono ?_); rintro ee w4 ⟨rfl, hb4⟩))
  clear a0 a1 a2 b0 b1 b2 K4
  have PC := Blk.new w4 24 #[.bool false, .string ⟨#[]⟩, .string ⟨#[]⟩]
  have HB1 := below_chain HB.out hb4
  have HC : Hid (Below w.heap.size w (w4.alloc (.cells #[.bool false, .string ⟨#[]⟩, .string ⟨#[]⟩] 24))) := Lib.hid (HB1.alloc HB1.size _)
  clear HB HB1 hb4
  generalize w4.alloc (.cells #[.bool false, .string ⟨#[]⟩, .string ⟨#[]⟩] 24) = w5 at *
  generalize w4.heap.size = g3 at *
  obtain ⟨c0, c1, c2⟩ := rat_cells PC
  clear PC
  go_upto_region 12 with fail
  have HB := HC
  clear HC c0 c1 c2
  go_upto_region 14 with (first
    | (go_at_call 14; (with_reducible refine (KO.out _).mono ?_); rintro ee w7 ⟨rfl, hb7⟩)
    | (go_at_call 15; (with_reducible refine (KS.out _).mono ?_); rintro ee w8 ⟨rfl, hb8⟩))
  have PA0 := Blk.new w7 24 #[.bool rg, .string rs, .string rt]
  have PA := (PA0.below hb8 PA0.lt).alloc (.cells #[.bool rg, .string rs, .string rt] 24)
  have PB := Blk.new w8 24 #[.bool rg, .string rs, .string rt]
  have HB1 := below_chain HB.out hb7
  have HB2 := below_chain (HB1.alloc HB1.size (.cells #[.bool rg, .string rs, .string rt] 24)) hb8
  have HD := Lib.hid (HB2.alloc HB2.size (.cells #[.bool rg, .string rs, .string rt] 24))
  clear HB HB1 HB2 PA0 hb7 hb8 KO KS
  generalize w8.alloc (.cells #[.bool rg, .string rs, .string rt] 24) = w9 at *
  generalize w7.heap.size = g4 at *
  generalize w8.heap.size = g5 at *
  obtain ⟨a0, a1, a2⟩ := rat_cells PA
  obtain ⟨b0, b1, b2⟩ := rat_cells PB
  clear PA PB
  go_upto_region 16 with fail
  clear a0 a1 a2 b0 b1 b2
  go_upto_region 17 with (first | (at_make; go_loud (refine wpList_make_zero _ rfl (.const (.int .i64 4097)) (.const (.int .i64 4097)) _ rfl 5 i0 _ Tryz.underlying64 hi0 hz0 hz1 .i64 .i64 _ _ 4097 rfl rfl rfl rfl (by rw [hz2]; omega) (by unfold maxLen; omega) ?_)))
  rw [fcells_made]
  have BA := Lib.hid (Blk.new w9 5 (fcells .u8 (fun _ => 0) 4097))
  have G6 := Lib.hid HD.out.size
  have HA := Lib.hid (HD.out.alloc HD.out.size (.cells (fcells .u8 (fun _ => 0) 4097) 5))
  clear HD
  generalize w9.alloc (.cells (fcells .u8 (fun _ => 0) 4097) 5) = wa at *
  generalize w9.heap.size = g6 at *
  go_wp2_with fail
  go_loopw [16] (fun v wr => ∃ k : Nat, v = .int .i64 (k : Nat) ∧ k ≤ 4097 ∧ Hid (Blk wr g6 5 (fcells .u8 (fun j => if j < k then 49 else 0) 4097)) ∧ Hid (Below w.heap.size w wr)) (fun v _ => 4097 - (RowKit.intOf v).toNat)
  case atStart => exact ⟨0, rfl, Nat.zero_le _, Lib.hid (by rw [fcells_congr (f' := fun _ => 0) (fun j _ => if_neg (Nat.not_lt_zero j))]; exact BA.out), HA⟩
  case round =>
    obtain ⟨k, rfl, hk, hblk, hbw⟩ := hrel
    by_cases hlt : k < 4097
    · have hfz := hblk.out.frozen k
      have hck := hblk.out.cell k
      rw [fcells_get _ _ _ _ hlt] at hck
      have HN1 : Hid (Blk (World.setCell _ ⟨g6, k, none⟩ (.int .u8 49)) g6 5 (fcells .u8 (fun j => if j < k + 1 then 49 else 0) 4097)) := Lib.hid (by
        have h := hblk.out.set_ k (.int .u8 ((49 : Nat) : Int))
        rw [fcells_set, fcells_congr (f' := fun j => if j < k + 1 then 49 else 0) (fun j _ => by
          by_cases h1 : j = k
          · subst h1; rw [if_pos rfl, if_pos (by omega)]
          · rw [if_neg h1]
            by_cases h2 : j < k
            · rw [if_pos h2, if_pos (by omega)]
            · rw [if_neg h2, if_neg (by omega)])] at h
        exact h)
      have HN2 := Lib.hid (hbw.out.setCell (p := ⟨g6, k, none⟩) G6.out (.int .u8 49))
      clear hblk hbw
      go_wp2_with fail
      go_roundw
      case rel => exact ⟨k + 1, by go_num, hlt, HN1, HN2⟩
      case measure => simp [RowKit.intOf]; omega
    · have hke : k = 4097 := by omega
      subst hke
      have BL := Lib.hid hblk.out
      rw [fcells_congr (k := .u8) (f := fun j => if j < 4097 then 49 else 0) (f' := fun _ => (49 : UInt8).toNat) (L := 4097) (fun j hj => if_pos hj)] at BL
      have HL := Lib.hid hbw.out
      clear hblk hbw hlt hk
      have hcv1 := rep_conv BL.out 0 4097 (by omega)
      go_wp2_with (first
        | (go_at_call 47; (with_reducible refine (KD1.out _).mono ?_); rintro ee wb ⟨rfl, hbb⟩; have B2 := (BL.out.below hbb BL.out.lt).alloc (.cells #[.bool d1g, .string d1s, .string d1t] 24); have H2 := below_chain HL.out hbb; have H3 := H2.alloc H2.size (.cells #[.bool d1g, .string d1s, .string d1t] 24); have hcv2 := rep_conv B2 1 4096 (by omega))
        | (go_at_call 47; (with_reducible refine (KD0.out _).mono ?_); rintro ee wc ⟨rfl, hbc⟩; have B4 := (B2.below hbc B2.lt).alloc (.cells #[.bool d0g, .string d0s, .string d0t] 24); have H4 := below_chain H3 hbc; have H5 := H4.alloc H4.size (.cells #[.bool d0g, .string d0s, .string d0t] 24); have hcv3 := rep_conv B4 0 4097 (by omega))
        | (go_at_call 49; (with_reducible refine (KN.out _ H5).mono ?_); rintro ee wd ⟨rfl, hbd⟩; have HE := Lib.hid (below_chain H5 hbd); clear B2 H2 H3 hcv2 B4 H4 H5 hcv3 hbb hbc hbd hcv1)
        | (at_make; go_loud (refine wpList_make_zero _ rfl (.const (.int .i64 80001)) (.const (.int .i64 80001)) _ rfl 5 i0 _ Tryz.underlying64 hi0 hz0 hz1 .i64 .i64 _ _ 80001 rfl rfl rfl rfl (by rw [hz2]; omega) (by unfold maxLen; omega) ?_)))
      generalize hLW : (80001 : Nat) = LW
      have HLW := Lib.hid hLW
      have hLW1 : 1 ≤ LW := by omega
      have hLW2 : ¬ LW = 1 := by omega
      have hLWm : LW ≤ 100000 := by omega
      clear hLW
      have KQ1 : Hid (∀ U, Below w.heap.size w U → Calls Tryz.prog 45 #[.string (repB 120 LW)] U fun e w' => e = .returned (.tuple #[.agg #[.bool f1g, .string f1s, .string f1t], .int .i64 4]) ∧ Below U.heap.size U w') := Lib.hid (by rw [← HLW.out]; exact KR1.out)
      have KQ0 : Hid (∀ U, Below w.heap.size w U → Calls Tryz.prog 45 #[.string (repB 120 (LW - 1))] U fun e w' => e = .returned (.tuple #[.agg #[.bool false, .string ⟨#[]⟩, .string ⟨#[]⟩], .int .i64 40]) ∧ Below U.heap.size U w') := Lib.hid (by rw [← HLW.out]; exact KR0.out)
      clear KR1 KR0
      rw [fcells_made]
      have BX := Lib.hid (Blk.new wd 5 (fcells .u8 (fun _ => 0) LW))
      have G7 := Lib.hid HE.out.size
      have HX := Lib.hid (HE.out.alloc HE.out.size (.cells (fcells .u8 (fun _ => 0) LW) 5))
      clear HE
      generalize wd.alloc (.cells (fcells .u8 (fun _ => 0) LW) 5) = we at *
      generalize wd.heap.size = g7 at *
      go_loopw [24] (fun v wr => ∃ k : Nat, v = .int .i64 (k : Nat) ∧ k ≤ LW ∧ Hid (Blk wr g7 5 (fcells .u8 (fun j => if j < k then 120 else 0) LW)) ∧ Hid (Below w.heap.size w wr)) (fun v _ => LW - (RowKit.intOf v).toNat)
      case atStart => exact ⟨0, rfl, Nat.zero_le _, Lib.hid (by rw [fcells_congr (f' := fun _ => 0) (fun j _ => if_neg (Nat.not_lt_zero j))]; exact BX.out), HX⟩
      case round =>
        obtain ⟨k, rfl, hk, hblk, hbw⟩ := hrel
        by_cases hlt : k < LW
        · have hfz := hblk.out.frozen k
          have hck := hblk.out.cell k
          rw [fcells_get _ _ _ _ hlt] at hck
          have HN1 : Hid (Blk (World.setCell _ ⟨g7, k, none⟩ (.int .u8 120)) g7 5 (fcells .u8 (fun j => if j < k + 1 then 120 else 0) LW)) := Lib.hid (by
            have h := hblk.out.set_ k (.int .u8 ((120 : Nat) : Int))
            rw [fcells_set, fcells_congr (f' := fun j => if j < k + 1 then 120 else 0) (fun j _ => by
              by_cases h1 : j = k
              · subst h1; rw [if_pos rfl, if_pos (by omega)]
              · rw [if_neg h1]
                by_cases h2 : j < k
                · rw [if_pos h2, if_pos (by omega)]
                · rw [if_neg h2, if_neg (by omega)])] at h
            exact h)
          have HN2 := Lib.hid (hbw.out.setCell (p := ⟨g7, k, none⟩) G7.out (.int .u8 120))
          clear hblk hbw
          go_wp2_with fail
          go_roundw
          case rel => exact ⟨k + 1, by go_num, hlt, HN1, HN2⟩
          case measure => simp [RowKit.intOf]; omega
        · have hke : LW = k := by omega
          subst hke
          have BM := Lib.hid hblk.out
          rw [fcells_congr (k := .u8) (f := fun j => if j < LW then 120 else 0) (f' := fun _ => (120 : UInt8).toNat) (L := LW) (fun j hj => if_pos hj)] at BM
          have HM2 := Lib.hid hbw.out
          clear hblk hbw hlt hk
          have hcv1 := rep_conv BM.out 0 LW (by omega)
          go_wp2_with (first
            | (go_at_call 45; (with_reducible refine (KQ1.out _ HM2.out).mono ?_); rintro ee wf ⟨rfl, hbf⟩; have B2 := (BM.out.below hbf BM.out.lt).alloc (.cells #[.bool f1g, .string f1s, .string f1t] 24); have H2 := below_chain HM2.out hbf; have H3 := H2.alloc H2.size (.cells #[.bool f1g, .string f1s, .string f1t] 24); have hcv2 := rep_conv B2 1 (LW - 1) (by omega))
            | (go_at_call 45; (with_reducible refine (KQ0.out _ H3).mono ?_); rintro ee wg ⟨rfl, hbg⟩; have H4 := below_chain H3 hbg; have H5 := H4.alloc H4.size (.cells #[.bool false, .string ⟨#[]⟩, .string ⟨#[]⟩] 24))
            | (go_at_call 11; (with_reducible refine (KL.out _ H5).mono ?_); rintro ee wh ⟨rfl, hbh⟩; have H6 := below_chain H5 hbh))
          clear B2 hcv2 hcv1 BM BX HX BA BL HL HA H2 H3 H4 H5 hbf hbg hbh
          refine bodyPost_ret (v := .bool true) (by simp [results, Tryz.results7, go_sem]) rfl ⟨rfl, H6⟩
set_option maxRecDepth 100000 in
set_option maxHeartbeats 2000000 in
theorem RLong_neg (n m x N0 M0 : Int) (w : World) (e1 : n.tmod 31000 = N0) (hN : -31000 < N0) (hN2 : N0 < 31000) (e2 : m.tmod 60000 = M0) (hM : M0 < 0)
    (KL : ∀ U, Below w.heap.size w U → Calls Tryz.prog 11 #[] U fun e w' => e = .returned (.bool true) ∧ Below U.heap.size U w') :
    Calls Tryz.prog 7 #[.int .i64 n, .int .i64 m, .int .i64 x] w fun e w' => e = .returned (.bool true) ∧ Below w.heap.size w w' := by
  replace KL := Lib.hid KL
  go_enter Tryz.func7, Tryz.ntmps7
  go_wp2_with (first | (go_at_call 11; (with_reducible refine (KL.out _ (Below.refl _ _)).mono ?_); rintro ee wh ⟨rfl, hbh⟩))
  refine bodyPost_ret (v := .bool true) (by simp [results, Tryz.results7, go_sem]) rfl ⟨rfl, hbh⟩
theorem RatioLong_law (n m x : Int) (w : World) (hG : Globs glT w) : Calls Tryz.prog 7 #[.int .i64 n, .int .i64 m, .int .i64 x] w fun e w' => e = .returned (.bool true) ∧ Below w.heap.size w w' := by
  obtain ⟨N0, hN0⟩ : ∃ N0, n.tmod 31000 = N0 := ⟨_, rfl⟩
  obtain ⟨M0, hM0⟩ : ∃ M0, m.tmod 60000 = M0 := ⟨_, rfl⟩
  have b1 : -31000 < N0 := by rw [← hN0]; exact Int.lt_tmod_of_pos n (by decide)
  have b2 : N0 < 31000 := by rw [← hN0]; exact Int.tmod_lt_of_pos n (by decide)
  have b3 : M0 < 60000 := by rw [← hM0]; exact Int.tmod_lt_of_pos m (by decide)
  have KL : ∀ U, Below w.heap.size w U → Calls Tryz.prog 11 #[] U fun e w' => e = .returned (.bool true) ∧ Below U.heap.size U w' := fun U hb => lives4_c U (hG.below hb (Nat.le_refl _))
  by_cases hM : M0 < 0
  · exact RLong_neg n m x N0 M0 w hN0 b1 b2 hM0 hM KL
  · obtain ⟨r, e, _, ho, hr⟩ := agree_Of ⟨false, ⟨#[1]⟩, x⟩ (show 1 ≤ 9223372036854775807 by decide)
    obtain ⟨a, ha⟩ : ∃ a : Nat, (a : Int) = 100000 + N0 := ⟨(100000 + N0).toNat, by omega⟩
    obtain ⟨b, hb⟩ : ∃ b : Nat, (b : Int) = M0 := ⟨M0.toNat, by omega⟩
    have KP1 := fun w => rPw_c a w (by omega)
    have KP2 := fun w => rPw_c b w (by omega)
    have KP3 := fun w => rPw_c (a + b) w (by omega)
    rw [ha] at KP1
    rw [hb] at KP2
    rw [Int.natCast_add, ha, hb] at KP3
    have D1 := fun w => PDecimal_c (repB 49 4097) w (by rw [repB_size]; decide)
    have D0 := fun w => PDecimal_c (repB 49 4096) w (by rw [repB_size]; decide)
    obtain ⟨_, _, _, q4⟩ := dc_long (s := repB 49 4097) (by rw [repB_size]; decide)
    have z0 := dc_ones 4096 (by decide) (by decide)
    unfold DcPost at D1 D0
    rw [q4] at D1
    rw [z0] at D0
    have hno : ¬ dcOk (repB 49 4097) := fun c => by have := c.1; rw [repB_size] at this; omega
    have KN : ∀ U, Below w.heap.size w U → Calls Tryz.prog 49 #[.string (repB 49 4097)] U fun e w' => e = .returned (.tuple #[.float .f64 0, .int .i64 4]) ∧ Below U.heap.size U w' := fun U hb => by
      have h := PNear_no (repB 49 4097) U (hG.below hb (Nat.le_refl _)) hno (by rw [repB_size]; decide)
      rwa [q4] at h
    have KR1 : ∀ U, Below w.heap.size w U → Calls Tryz.prog 45 #[.string (repB 120 80001)] U fun e w' => e = .returned (.tuple #[.agg #[.bool false, .string ⟨#[]⟩, .string ⟨#[]⟩], .int .i64 4]) ∧ Below U.heap.size U w' := fun U hb => PRead_long (repB 120 80001) U (hG.below hb (Nat.le_refl _)) (by rw [repB_size]; decide) (by rw [repB_size]; decide)
    have KR0 : ∀ U, Below w.heap.size w U → Calls Tryz.prog 45 #[.string (repB 120 80000)] U fun e w' => e = .returned (.tuple #[.agg #[.bool false, .string ⟨#[]⟩, .string ⟨#[]⟩], .int .i64 40]) ∧ Below U.heap.size U w' := fun U hb => by
      have h := PRead_c (repB 120 80000) U (hG.below hb (Nat.le_refl _)) (by rw [repB_size]; decide) (by rw [repB_size]; decide)
      obtain ⟨x1, x2⟩ := rd_exes 80000 (by decide)
      rwa [x1, x2] at h
    by_cases hs : 100000 + N0 + M0 < 131072
    · exact RLong_ok n m x N0 M0 _ _ _ w hN0 b1 b2 hM0 (by omega) b3 hs KP1 KP2 KP3 (fun w => PMul_pw a b (by omega) (by omega) w (by omega)) _ _ _ _ _ _ _ _ _ 0 D1 D0 KN KR1 KR0 KL _ _ _ e ho hr
    · exact RLong_no n m x N0 M0 _ _ w hN0 b1 b2 hM0 (by omega) b3 hs KP1 KP2 (fun w => PMul_pw_no a b (by omega) (by omega) w (by omega)) _ _ _ _ _ _ _ _ _ 0 D1 D0 KN KR1 KR0 KL _ _ _ e ho hr
end Go.Proofs.YtajcapliokblfaaGreatDoor
namespace Go.Proofs.YtajcapliokblfaaGreatDoor
open Go Go.RowKit Go.WideShapes Go.ChangeShapes
variable {H : Type} {enc : TypeId × Value → H} {P : Program}
theorem postBelow {f : Func} {s : ChangeSpec} {apart fresh handsOn again : Bool} {W W' : World} {args : Array Value} {v : Value} {ds gs : List (DataW H)} {places pa pv : List MemPlace}
    (whole : DataW.Whole enc P f.params.toList s.vars apart W args.toList ds gs places)
    (res : ∀ (b : Nat) (sp : Nat → Bool) (hd : Bool), DataW.TrodAll enc P W' b sp hd f.resultTypes.toList (v.resultList f.resultTypes.size) (s.fn H (ds ++ gs)).results [])
    (left : ∀ sp : Nat → Bool, (∀ p ∈ places, sp p.block = true) → DataW.TrodAll enc P W' 0 sp true f.params.toList args.toList (s.fn H (ds ++ gs)).args pa)
    (vars : ∀ sp : Nat → Bool, (∀ p ∈ places, sp p.block = true) → DataW.TrodVars enc P W' sp s.vars (s.fn H (ds ++ gs)).vars pv)
    (split : places = pa ++ pv) (below : Below W.heap.size W W')
    (ok : ∀ (j : Nat) (t : TypeId) (r : Value), f.resultTypes[j]? = some t → (v.resultList f.resultTypes.size)[j]? = some r → Value.okWide P W' .any 0 t r) :
    s.post enc P f apart fresh handsOn again W args v W' := by
  have old : ∀ p ∈ places, p.block < W.heap.size := fun p hp => whole.lt p hp
  have same : ∀ p ∈ places, (fun b => decide (b < W.heap.size)) p.block = true := fun p hp => decide_eq_true (old p hp)
  have kept : W.keptBut W' (fun p => p ∈ places ∧ p ∈ pa ++ pv) :=
    World.keptBut_mono (fun p hp => ⟨hp, split ▸ hp⟩) (below.frame (· ∈ places))
  have free : ∀ b off, MemPlace.cell b off ∈ pa ++ pv → W'.frozen? ⟨b, off, none⟩ = false := fun b off hp => by
    have hin : MemPlace.cell b off ∈ places := split ▸ hp
    rw [below.frozen (p := ⟨b, off, none⟩) (old _ hin)]
    obtain ⟨_, _, _, _, _, hz, _⟩ := whole
    exact hz b off hin
  have apartNow : apart = true → (pa ++ pv).Nodup := fun ha => by
    obtain ⟨_, _, _, _, _, _, hn⟩ := whole
    exact split ▸ hn ha
  refine ⟨ds, gs, places, [], pa, pv, whole, res _ _ _, left _ same, vars _ same, ?_, fun _ => ⟨ok, _, _, ([] ++ pa) ++ pv, ⟨[] ++ pa, pv, trodAll_append (left _ (fun _ _ => rfl)) (res _ _ _), vars _ (fun _ _ => rfl), rfl, ?_, ?_⟩, ?_⟩⟩
  · exact World.keptBut_mono (fun p hp => ⟨hp.1, Or.inr (List.mem_append.1 hp.2)⟩) kept
  · intro b off hp; exact free b off (by simpa using hp)
  · intro ha; simpa using apartNow ha
  · intro p hp _; rw [split]; simpa using hp
end Go.Proofs.YtajcapliokblfaaGreatDoor
