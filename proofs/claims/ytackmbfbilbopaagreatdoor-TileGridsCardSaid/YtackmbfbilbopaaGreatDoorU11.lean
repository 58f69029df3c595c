/- Texts put together: TG10 Post DP GP WP TGP. -/
import Derived.Test.YtackmbfbilbopaaGreatDoorU7
import Derived.Test.YtackmbfbilbopaaGreatDoorU8
import Derived.Test.YtackmbfbilbopaaGreatDoorU9
import Derived.Test.YtackmbfbilbopaaGreatDoorU10
import Derived.Below
import Derived.ChangeSame
import Derived.Test.YtackmbfbilbopaaGreatDoorRows
import Derived.ProofKit
import Derived.Lib.SmallJoins
import Derived.OpenShut
import Derived.ShutString
import Derived.Deep.Strs
set_option linter.unusedVariables false
namespace Go.Proofs.YtackmbfbilbopaaGreatDoor
open Go Go.RowKit Nt
theorem TileGrids_law (G : GrT) (n c r lv : Int) (w : World) (hs : G.w.c.Small) (hG : Globs glT w) : Calls Tryz.prog 3 #[.agg #[.bool G.w.c.re.g, .string G.w.c.re.s, .int .i64 G.w.c.re.x, .bool G.w.c.im.g, .string G.w.c.im.s, .int .i64 G.w.c.im.x, .int .i64 G.w.e, .int .i64 G.w.a, .int .i64 G.w.d, .int .i64 G.x, .int .i64 G.h], .int .i64 n, .int .i64 c, .int .i64 r, .int .i64 lv] w fun e w' => e = .returned (.bool true) ∧ Below w.heap.size w w' := by
  refine (callsIn_wide (n := 3)).1 ?_
  by_cases hO : G.Ok
  · by_cases hk : 0 ≤ n ∧ n < G.A * G.D
    · by_cases hc : 0 ≤ c ∧ 0 ≤ r ∧ c < G.w.a ∧ r < G.w.d
      · exact TG_ii G n c r lv w hs hO hk hc hG
      · exact TG_io G n c r lv w hs hO hk hc hG
    · by_cases hc : 0 ≤ c ∧ 0 ≤ r ∧ c < G.w.a ∧ r < G.w.d
      · exact TG_oi G n c r lv w hs hO hk hc hG
      · exact TG_oo G n c r lv w hs hO hk hc hG
  · exact TG_no G n c r lv w hs hO hG
end Go.Proofs.YtackmbfbilbopaaGreatDoor
namespace Go.Proofs.YtackmbfbilbopaaGreatDoor
open Go Go.RowKit Go.WideShapes Go.ChangeShapes
variable {H : Type} {enc : TypeId × Value → H} {P : Program}
theorem postBelow {f : Func} {s : ChangeSpec} {apart fresh handsOn again : Bool} {W W' : World} {args : Array Value} {v : Value} {ds gs : List (DataW H)} {places pa pv : List MemPlace}
    (whole : DataW.Whole enc P f.params.toList s.vars apart W args.toList ds gs places)
    (res : ∀ (b : Nat) (sp : Nat → Bool) (hd : Bool), DataW.TrodAll enc P W' b sp hd f.resultTypes.toList (v.resultList f.resultTypes.size) (s.fn H (ds ++ gs)).results [])
    (left : ∀ sp : Nat → Bool, (∀ p ∈ places, sp p.block = true) → DataW.TrodAll enc P W' 0 sp true f.params.toList args.toList (s.fn H (ds ++ gs)).args pa)
    (vars : ∀ sp : Nat → Bool, (∀ p ∈ places, sp p.block = true) → DataW.TrodVars enc P W' sp s.vars (s.fn H (ds ++ gs)).vars pv)
    (split : places = pa ++ pv) (below : Below W.heap.size W W')
    (ok : ∀ (j : Nat) (t : TypeId) (r : Value), f.resultTypes[j]? = some t → (v.resultList f.resultTypes.size)[j]? = some r → Value.okWide P W' .any 0 t r) :
    s.post enc P f apart fresh handsOn again W args v W' := by
  have old : ∀ p ∈ places, p.block < W.heap.size := fun p hp => whole.lt p hp
  have same : ∀ p ∈ places, (fun b => decide (b < W.heap.size)) p.block = true := fun p hp => decide_eq_true (old p hp)
  have kept : W.keptBut W' (fun p => p ∈ places ∧ p ∈ pa ++ pv) :=
    World.keptBut_mono (fun p hp => ⟨hp, split ▸ hp⟩) (below.frame (· ∈ places))
  have free : ∀ b off, MemPlace.cell b off ∈ pa ++ pv → W'.frozen? ⟨b, off, none⟩ = false := fun b off hp => by
    have hin : MemPlace.cell b off ∈ places := split ▸ hp
    rw [below.frozen (p := ⟨b, off, none⟩) (old _ hin)]
    obtain ⟨_, _, _, _, _, hz, _⟩ := whole
    exact hz b off hin
  have apartNow : apart = true → (pa ++ pv).Nodup := fun ha => by
    obtain ⟨_, _, _, _, _, _, hn⟩ := whole
    exact split ▸ hn ha
  refine ⟨ds, gs, places, [], pa, pv, whole, res _ _ _, left _ same, vars _ same, ?_, fun _ => ⟨ok, _, _, ([] ++ pa) ++ pv, ⟨[] ++ pa, pv, trodAll_append (left _ (fun _ _ => rfl)) (res _ _ _), vars _ (fun _ _ => rfl), rfl, ?_, ?_⟩, ?_⟩⟩
  · exact World.keptBut_mono (fun p hp => ⟨hp.1, Or.inr (List.mem_append.1 hp.2)⟩) kept
  · intro b off hp; exact free b off (by simpa using hp)
  · intro ha; simpa using apartNow ha
  · intro p hp _; rw [split]; simpa using hp
end Go.Proofs.YtackmbfbilbopaaGreatDoor
namespace Go.Proofs.YtackmbfbilbopaaGreatDoor
open Go.ChangeShapes Go.WideShapes Go.ChangeAt Go.RowKit Go.Joins
variable {H : Type} {enc : TypeId × Value → H}
def dyadD (H : Type) (g : Bool) (s : ByteArray) (x : Int) : DataW H := .agg [.lit (.bool g), .lit (.string s.data.toList), .lit (.int .i64 x)]
end Go.Proofs.YtackmbfbilbopaaGreatDoor
set_option linter.unusedSimpArgs false
namespace Go.Proofs.YtackmbfbilbopaaGreatDoor
open Go.ChangeShapes Go.WideShapes Go.ChangeAt Go.RowKit Go.Joins Go.Deep Go.ChangeMaps
variable {H : Type} {enc : TypeId × Value → H}
theorem cDyad : Tryz.prog.cellsOf 24 = 3 := by kernel_rfl
theorem cGauss : Tryz.prog.cellsOf 26 = 6 := by kernel_rfl
theorem cBool1 : Tryz.prog.cellsOf 4 = 1 := by kernel_rfl
theorem cNat1 : Tryz.prog.cellsOf 22 = 1 := by kernel_rfl
theorem cInt1 : Tryz.prog.cellsOf 3 = 1 := by kernel_rfl
set_option maxRecDepth 100000 in
theorem trod_dyad {w : World} {base : Nat} {spare : Nat → Bool} {held : Bool} {n : Nat} {c0 c1 c2 : Value} {y : DataW H × List MemPlace} (h : DataW.trod enc Tryz.prog w base spare held n 24 [c0, c1, c2] = some y) :
    ∃ (g : Bool) (s : ByteArray) (x : Int), c0 = .bool g ∧ c1 = .string s ∧ c2 = .int .i64 x ∧ y = (dyadD H g s x, []) ∧ s.size ≤ maxLen ∧ (Lit.int .i64 x).wf = true := by
  obtain ⟨y0, y1, y2, m, rfl, _, h0, h1, h2⟩ := trod_struct3 Tryz.underlying24 h
  simp only [cBool1, cNat1, cInt1, List.drop_zero, List.take_succ_cons, List.take_zero, List.drop_succ_cons] at h0 h1 h2
  obtain ⟨g, e0, rfl⟩ := DataW.trod_bool Tryz.underlying4 h0
  obtain ⟨s, e1, rfl, hs⟩ := DataW.trod_string Tryz.underlying22 h1
  obtain ⟨x, e2, rfl, wx⟩ := DataW.trod_int Tryz.underlying3 h2
  simp at e0 e1 e2
  subst e0 e1 e2
  exact ⟨g, s, x, rfl, rfl, rfl, rfl, hs, wx⟩
end Go.Proofs.YtackmbfbilbopaaGreatDoor
namespace Go.Proofs.YtackmbfbilbopaaGreatDoor
open Go.ChangeShapes Go.WideShapes Go.ChangeAt Go.RowKit Go.Joins Go.Deep Go.ChangeMaps
variable {H : Type} {enc : TypeId × Value → H}
theorem cWindow : Tryz.prog.cellsOf 28 = 9 := by kernel_rfl
theorem laidOutW : laidOutB Tryz.prog = true := by kernel_rfl
set_option maxRecDepth 100000 in
theorem trod_gauss {w : World} {base : Nat} {spare : Nat → Bool} {held : Bool} {n : Nat} {c0 c1 c2 c3 c4 c5 : Value} {y : DataW H × List MemPlace} (h : DataW.trod enc Tryz.prog w base spare held n 26 [c0, c1, c2, c3, c4, c5] = some y) :
    ∃ (g : Bool) (s : ByteArray) (x : Int) (k : Bool) (q : ByteArray) (z : Int), c0 = .bool g ∧ c1 = .string s ∧ c2 = .int .i64 x ∧ c3 = .bool k ∧ c4 = .string q ∧ c5 = .int .i64 z ∧ y.2 = [] ∧ s.size ≤ maxLen ∧ q.size ≤ maxLen := by
  obtain ⟨y0, y1, n, hx, _, h0, h1⟩ := trod_struct2 Tryz.underlying26 h
  simp only [Value.cells, cDyad, List.drop_zero, List.take_succ_cons, List.take_zero, List.drop_succ_cons] at h0 h1
  obtain ⟨g, s, x, rfl, rfl, rfl, rfl, hs, wx⟩ := trod_dyad h0
  obtain ⟨k, q, z, rfl, rfl, rfl, rfl, hq, wy⟩ := trod_dyad h1
  simp only [hx]
  exact ⟨g, s, x, k, q, z, rfl, rfl, rfl, rfl, rfl, rfl, rfl, hs, hq⟩
end Go.Proofs.YtackmbfbilbopaaGreatDoor
namespace Go.Proofs.YtackmbfbilbopaaGreatDoor
open Go.ChangeShapes Go.WideShapes Go.ChangeAt Go.RowKit Go.Joins Go.Deep Go.ChangeMaps
variable {H : Type} {enc : TypeId × Value → H}
theorem array11g {α : Type} {cs : Array α} (h : cs.size = 11) : ∃ c0 c1 c2 c3 c4 c5 c6 c7 c8 c9 cA, cs = #[c0, c1, c2, c3, c4, c5, c6, c7, c8, c9, cA] := by
  obtain ⟨l⟩ := cs
  match l, h with
  | [c0, c1, c2, c3, c4, c5, c6, c7, c8, c9, cA], _ => exact ⟨c0, c1, c2, c3, c4, c5, c6, c7, c8, c9, cA, rfl⟩
theorem cGrid : Tryz.prog.cellsOf 30 = 11 := by kernel_rfl
set_option maxRecDepth 100000 in
theorem trod_window {w : World} {base : Nat} {spare : Nat → Bool} {held : Bool} {n : Nat} {c0 c1 c2 c3 c4 c5 c6 c7 c8 : Value} {y : DataW H × List MemPlace} (hf : DataW.trod enc Tryz.prog w base spare held n 28 [c0, c1, c2, c3, c4, c5, c6, c7, c8] = some y) :
    ∃ (g : Bool) (s : ByteArray) (x : Int) (k : Bool) (q : ByteArray) (z e a b : Int), c0 = .bool g ∧ c1 = .string s ∧ c2 = .int .i64 x ∧ c3 = .bool k ∧ c4 = .string q ∧ c5 = .int .i64 z ∧ c6 = .int .i64 e ∧ c7 = .int .i64 a ∧ c8 = .int .i64 b ∧ s.size ≤ maxLen ∧ q.size ≤ maxLen := by
  obtain ⟨d, p⟩ := y
  obtain ⟨xs, n, _, _, _, hl, hall⟩ := DataW.trod_struct Tryz.underlying28 hf
  have hl4 : xs.length = 4 := hl
  match xs, hl4, hall with
  | [x0, x1, x2, x3], _, hall =>
    have h0 : DataW.trod enc Tryz.prog w base spare held n 26 (List.take (Tryz.prog.cellsOf 26) (List.drop 0 [c0, c1, c2, c3, c4, c5, c6, c7, c8])) = some x0 := hall 0 _ rfl
    have h1 : DataW.trod enc Tryz.prog w base spare held n 3 (List.take (Tryz.prog.cellsOf 3) (List.drop 6 [c0, c1, c2, c3, c4, c5, c6, c7, c8])) = some x1 := hall 1 _ rfl
    have h2 : DataW.trod enc Tryz.prog w base spare held n 3 (List.take (Tryz.prog.cellsOf 3) (List.drop 7 [c0, c1, c2, c3, c4, c5, c6, c7, c8])) = some x2 := hall 2 _ rfl
    have h3 : DataW.trod enc Tryz.prog w base spare held n 3 (List.take (Tryz.prog.cellsOf 3) (List.drop 8 [c0, c1, c2, c3, c4, c5, c6, c7, c8])) = some x3 := hall 3 _ rfl
    simp only [Value.cells, cGauss, cInt1, List.drop_zero, List.take_succ_cons, List.take_zero, List.drop_succ_cons] at h0 h1 h2 h3
    obtain ⟨g, s, x, k, q, z, rfl, rfl, rfl, rfl, rfl, rfl, _, hs, hq⟩ := trod_gauss h0
    obtain ⟨e, e1, _, _⟩ := DataW.trod_int Tryz.underlying3 h1
    obtain ⟨a, e2, _, _⟩ := DataW.trod_int Tryz.underlying3 h2
    obtain ⟨b, e3, _, _⟩ := DataW.trod_int Tryz.underlying3 h3
    simp [cInt1] at e1 e2 e3
    subst e1 e2 e3
    exact ⟨g, s, x, k, q, z, e, a, b, rfl, rfl, rfl, rfl, rfl, rfl, rfl, rfl, rfl, hs, hq⟩
set_option maxRecDepth 100000 in
theorem open_grid {w : World} {base : Nat} {spare : Nat → Bool} {held : Bool} {r : Go.Reach} {b0 : Nat} {v : Value} {d : DataW H} {p : List MemPlace}
    (hv : Value.okWide Tryz.prog w r b0 30 v) (h : DataW.Trod enc Tryz.prog w base spare held 30 v d p) :
    ∃ (g : Bool) (s : ByteArray) (x : Int) (k : Bool) (q : ByteArray) (y e a b i j : Int), v = .agg #[.bool g, .string s, .int .i64 x, .bool k, .string q, .int .i64 y, .int .i64 e, .int .i64 a, .int .i64 b, .int .i64 i, .int .i64 j] ∧ s.size ≤ maxLen ∧ q.size ≤ maxLen := by
  obtain ⟨cs, rfl, hsz⟩ := okWide_struct Tryz.underlying30 hv
  obtain ⟨c0, c1, c2, c3, c4, c5, c6, c7, c8, c9, cA, rfl⟩ := array11g (hsz.trans cGrid)
  obtain ⟨fuel, hf⟩ := h
  rw [show (Value.cells (.agg #[c0, c1, c2, c3, c4, c5, c6, c7, c8, c9, cA])).toList = [c0, c1, c2, c3, c4, c5, c6, c7, c8, c9, cA] from rfl] at hf
  obtain ⟨xs, n, _, _, _, hl, hall⟩ := DataW.trod_struct Tryz.underlying30 hf
  have hl4 : xs.length = 3 := hl
  match xs, hl4, hall with
  | [x0, x1, x2], _, hall =>
    have h0 : DataW.trod enc Tryz.prog w base spare held n 28 (List.take (Tryz.prog.cellsOf 28) (List.drop 0 [c0, c1, c2, c3, c4, c5, c6, c7, c8, c9, cA])) = some x0 := hall 0 _ rfl
    have h1 : DataW.trod enc Tryz.prog w base spare held n 3 (List.take (Tryz.prog.cellsOf 3) (List.drop 9 [c0, c1, c2, c3, c4, c5, c6, c7, c8, c9, cA])) = some x1 := hall 1 _ rfl
    have h2 : DataW.trod enc Tryz.prog w base spare held n 3 (List.take (Tryz.prog.cellsOf 3) (List.drop 10 [c0, c1, c2, c3, c4, c5, c6, c7, c8, c9, cA])) = some x2 := hall 2 _ rfl
    simp only [Value.cells, cWindow, cInt1, List.drop_zero, List.take_succ_cons, List.take_zero, List.drop_succ_cons] at h0 h1 h2
    obtain ⟨g, s, x, k, q, z, e, a, b, rfl, rfl, rfl, rfl, rfl, rfl, rfl, rfl, rfl, hs, hq⟩ := trod_window h0
    obtain ⟨i, e1, _, _⟩ := DataW.trod_int Tryz.underlying3 h1
    obtain ⟨j, e2, _, _⟩ := DataW.trod_int Tryz.underlying3 h2
    simp [cInt1] at e1 e2
    subst e1 e2
    exact ⟨g, s, x, k, q, z, e, a, b, i, j, rfl, hs, hq⟩
end Go.Proofs.YtackmbfbilbopaaGreatDoor
