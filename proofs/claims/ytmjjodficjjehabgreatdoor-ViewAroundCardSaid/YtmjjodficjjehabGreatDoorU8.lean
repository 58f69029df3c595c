/- Texts put together: VA4 Post DP GP VP. -/
import Derived.Test.YtmjjodficjjehabGreatDoorU6
import Derived.Test.YtmjjodficjjehabGreatDoorU7
import Derived.Below
import Derived.ChangeSame
import Derived.Test.YtmjjodficjjehabGreatDoorRows
import Derived.ProofKit
import Derived.Lib.SmallJoins
import Derived.OpenShut
import Derived.ShutString
import Derived.Deep.Strs
set_option linter.unusedSimpArgs false
set_option linter.unusedVariables false
namespace Go.Proofs.YtmjjodficjjehabGreatDoor
open Go Go.RowKit Nt
theorem GIn_f {q C : Gs} {r : Dy} (b : Bool) (w : World) (hq : q.Ok) (hC : C.Ok) (hr : r.Ok) (hg : r.g = false) (hE : inE q C r = 0) (hB : inB q C r = b) (hG : Globs glT w) : Calls Tryz.prog 11 #[.agg #[.bool q.re.g, .string (natS q.re.n), .int .i64 q.re.x, .bool q.im.g, .string (natS q.im.n), .int .i64 q.im.x], .agg #[.bool C.re.g, .string (natS C.re.n), .int .i64 C.re.x, .bool C.im.g, .string (natS C.im.n), .int .i64 C.im.x], .agg #[.bool r.g, .string (natS r.n), .int .i64 r.x]] w fun e w' => e = .returned (.tuple #[.bool b, .int .i64 0]) ∧ Below w.heap.size w w' := by
  obtain ⟨g, n, x⟩ := r
  dsimp only at hg
  subst hg
  have h := GIn_p q C n x w hq hC hr hG
  rw [hE, hB] at h
  exact h
theorem VAround_right (l m : Dy) (y : Int) (w : World) (hl : l.Ok) (hm : m.Ok) (he : -4096 ≤ y ∧ y ≤ 4096) (hG : Globs glT w) : Calls Tryz.prog 3 #[.agg #[.bool l.g, .string (natS l.n), .int .i64 l.x, .bool m.g, .string (natS m.n), .int .i64 m.x, .int .i64 y]] w fun e w' => e = .returned (.bool true) ∧ Below w.heap.size w w' := by
  have bad : ∀ ee : Int, ¬ ee = 0 → cvA l m y = ((0, 0, 0), ee) → Calls Tryz.prog 3 #[.agg #[.bool l.g, .string (natS l.n), .int .i64 l.x, .bool m.g, .string (natS m.n), .int .i64 m.x, .int .i64 y]] w fun e w' => e = .returned (.bool true) ∧ Below w.heap.size w w' := fun ee h0 hc =>
    VAround_no ⟨l.g, natS l.n, l.x⟩ ⟨m.g, natS m.n, m.x⟩ y ee w awake24_c (fun W hW => by
      have h := VCover_c l m y W hl hm he hW
      unfold CvPost at h
      rw [hc] at h
      exact h) (fun W _ => bits24_c 0 0 0 W) h0 hG
  by_cases hf : cvFit l m y
  · by_cases h2 : cvFin l m y
    · cases h3 : frS (cvC l m y) (cnr l m y) Dy.zero with
      | none => exact bad 4 (by decide) (cvA_none hf h2 h3)
      | some n =>
        by_cases h4 : rtU n < 9218868437227405312
        · obtain ⟨r0, ra, q, hq, rn⟩ := around_all hl hm he hf h3 h4
          have hc := cvA_ok hf h2 h3 h4
          have o1 := add_Ok hl (pw_Ok y)
          have o2 := add_Ok hm (pw_Ok y)
          have hC := cvC_Ok l m y
          have hM := midG_Ok (y := y) hl hm
          have f1 := (fin_low (u := rtU n) (by omega)).2 h4
          have f2 := (fin_low (u := rtU n - 1) (by omega)).2 (by omega)
          have I := fun q (hq : q ∈ cnr l m y) (ho : q.Ok) W (hW : Globs glT W) => GIn_f true W ho hC (flt_Ok (rtU n)) (flt_up (by omega)) (ra q hq).1 (ra q hq).2.1 hW
          have N := fun q (hq : q ∈ cnr l m y) (ho : q.Ok) W (hW : Globs glT W) => GIn_f (inB q (cvC l m y) (flt (rtU n - 1))) W ho hC (flt_Ok (rtU n - 1)) (flt_up (by omega)) (ra q hq).2.2 rfl hW
          have m0 : (⟨l, m⟩ : Gs) ∈ cnr l m y := by unfold cnr; simp
          have m1 : (⟨addD l (pw y), m⟩ : Gs) ∈ cnr l m y := by unfold cnr; simp
          have m2 : (⟨l, addD m (pw y)⟩ : Gs) ∈ cnr l m y := by unfold cnr; simp
          have m3 : (⟨addD l (pw y), addD m (pw y)⟩ : Gs) ∈ cnr l m y := by unfold cnr; simp
          refine VAround_ok l m y (rdN (midG l m y).re) (rdN (midG l m y).im) (rtU n) (rtU n - 1) (cvC l m y) ⟨l, m⟩ ⟨addD l (pw y), m⟩ ⟨l, addD m (pw y)⟩ ⟨addD l (pw y), addD m (pw y)⟩ (flt (rtU n)) (flt (rtU n - 1)) _ _ _ _ w awake24_c (fun W hW => ?_) (fun W hW => VCorn_ok l m y W hl hm he hf.1.1 hf.1.2 hW) (fun W hW => GCplx_ok _ _ W (rdN_64 hM.1) (rdN_64 hM.2) h2.1 h2.2 hW) (fun W hW => DFloat_f _ W (by omega) f1 hW) (fun W _ => PDown_c _ r0 h4 W) (fun W hW => DFloat_f _ W (by omega) f2 hW)
            (fun W hW => I _ m0 ⟨hl, hm⟩ W hW) (fun W hW => N _ m0 ⟨hl, hm⟩ W hW) (fun W hW => I _ m1 ⟨o1, hm⟩ W hW) (fun W hW => N _ m1 ⟨o1, hm⟩ W hW) (fun W hW => I _ m2 ⟨hl, o2⟩ W hW) (fun W hW => N _ m2 ⟨hl, o2⟩ W hW) (fun W hW => I _ m3 ⟨o1, o2⟩ W hW) (fun W hW => N _ m3 ⟨o1, o2⟩ W hW) ?_ ?_ hG
          · have h := VCover_c l m y W hl hm he hW
            unfold CvPost at h
            rw [hc] at h
            exact h
          · intro c
            unfold fleB at c
            have c2 := (of_decide_eq_true c).2.2
            have er : Bt.Ff.rung (rtU n) = rtU n := Nat.mod_eq_of_lt (by omega)
            have es : Bt.Ff.sgn (rtU n) = false := by unfold Bt.Ff.sgn; rw [Nat.div_eq_of_lt (by omega)]; rfl
            have esr : Bt.Ff.srung (rtU n) = rtU n := by unfold Bt.Ff.srung; rw [es, er]; rfl
            rw [esr, Bt.srung_zero] at c2
            omega
          · rintro ⟨b0, b1, b2, b3⟩
            unfold cnr at hq
            simp only [List.mem_cons, List.not_mem_nil, or_false] at hq
            rcases hq with rfl | rfl | rfl | rfl
            · rw [b0] at rn; exact absurd rn (by decide)
            · rw [b1] at rn; exact absurd rn (by decide)
            · rw [b2] at rn; exact absurd rn (by decide)
            · rw [b3] at rn; exact absurd rn (by decide)
        · exact bad 5 (by decide) (cvA_far hf h2 h3 h4)
    · exact bad 5 (by decide) (cvA_inf hf h2)
  · exact bad 4 (by decide) (cvA_long hf)
theorem ViewAround_law (p q : Dt) (y : Int) (w : World) (zp : p.s.size ≤ 9223372036854775807) (zq : q.s.size ≤ 9223372036854775807) (hG : Globs glT w) : Calls Tryz.prog 3 #[.agg #[.bool p.g, .string p.s, .int .i64 p.x, .bool q.g, .string q.s, .int .i64 q.x, .int .i64 y]] w fun e w' => e = .returned (.bool true) ∧ Below w.heap.size w w' := by
  by_cases hw : p.Ok ∧ q.Ok ∧ -4096 ≤ y ∧ y ≤ 4096
  · obtain ⟨p1, q1, e1, e2⟩ := hw
    obtain ⟨p, hp, rfl⟩ := Dt.dy p1
    obtain ⟨q, hq, rfl⟩ := Dt.dy q1
    exact VAround_right p q y w hp hq ⟨e1, e2⟩ hG
  · exact VAround_no p q y 240 w awake24_c (fun W hW => VCover_w p q y W trivial (fun W hG => VRight_no p q y W zp zq hw hG) hW) (fun W _ => bits24_c 0 0 0 W) (by decide) hG
end Go.Proofs.YtmjjodficjjehabGreatDoor
namespace Go.Proofs.YtmjjodficjjehabGreatDoor
open Go Go.RowKit Go.WideShapes Go.ChangeShapes
variable {H : Type} {enc : TypeId × Value → H} {P : Program}
theorem postBelow {f : Func} {s : ChangeSpec} {apart fresh handsOn again : Bool} {W W' : World} {args : Array Value} {v : Value} {ds gs : List (DataW H)} {places pa pv : List MemPlace}
    (whole : DataW.Whole enc P f.params.toList s.vars apart W args.toList ds gs places)
    (res : ∀ (b : Nat) (sp : Nat → Bool) (hd : Bool), DataW.TrodAll enc P W' b sp hd f.resultTypes.toList (v.resultList f.resultTypes.size) (s.fn H (ds ++ gs)).results [])
    (left : ∀ sp : Nat → Bool, (∀ p ∈ places, sp p.block = true) → DataW.TrodAll enc P W' 0 sp true f.params.toList args.toList (s.fn H (ds ++ gs)).args pa)
    (vars : ∀ sp : Nat → Bool, (∀ p ∈ places, sp p.block = true) → DataW.TrodVars enc P W' sp s.vars (s.fn H (ds ++ gs)).vars pv)
    (split : places = pa ++ pv) (below : Below W.heap.size W W')
    (ok : ∀ (j : Nat) (t : TypeId) (r : Value), f.resultTypes[j]? = some t → (v.resultList f.resultTypes.size)[j]? = some r → Value.okWide P W' .any 0 t r) :
    s.post enc P f apart fresh handsOn again W args v W' := by
  have old : ∀ p ∈ places, p.block < W.heap.size := fun p hp => whole.lt p hp
  have same : ∀ p ∈ places, (fun b => decide (b < W.heap.size)) p.block = true := fun p hp => decide_eq_true (old p hp)
  have kept : W.keptBut W' (fun p => p ∈ places ∧ p ∈ pa ++ pv) :=
    World.keptBut_mono (fun p hp => ⟨hp, split ▸ hp⟩) (below.frame (· ∈ places))
  have free : ∀ b off, MemPlace.cell b off ∈ pa ++ pv → W'.frozen? ⟨b, off, none⟩ = false := fun b off hp => by
    have hin : MemPlace.cell b off ∈ places := split ▸ hp
    rw [below.frozen (p := ⟨b, off, none⟩) (old _ hin)]
    obtain ⟨_, _, _, _, _, hz, _⟩ := whole
    exact hz b off hin
  have apartNow : apart = true → (pa ++ pv).Nodup := fun ha => by
    obtain ⟨_, _, _, _, _, _, hn⟩ := whole
    exact split ▸ hn ha
  refine ⟨ds, gs, places, [], pa, pv, whole, res _ _ _, left _ same, vars _ same, ?_, fun _ => ⟨ok, _, _, ([] ++ pa) ++ pv, ⟨[] ++ pa, pv, trodAll_append (left _ (fun _ _ => rfl)) (res _ _ _), vars _ (fun _ _ => rfl), rfl, ?_, ?_⟩, ?_⟩⟩
  · exact World.keptBut_mono (fun p hp => ⟨hp.1, Or.inr (List.mem_append.1 hp.2)⟩) kept
  · intro b off hp; exact free b off (by simpa using hp)
  · intro ha; simpa using apartNow ha
  · intro p hp _; rw [split]; simpa using hp
end Go.Proofs.YtmjjodficjjehabGreatDoor
namespace Go.Proofs.YtmjjodficjjehabGreatDoor
open Go.ChangeShapes Go.WideShapes Go.ChangeAt Go.RowKit Go.Joins
variable {H : Type} {enc : TypeId × Value → H}
def dyadD (H : Type) (g : Bool) (s : ByteArray) (x : Int) : DataW H := .agg [.lit (.bool g), .lit (.string s.data.toList), .lit (.int .i64 x)]
end Go.Proofs.YtmjjodficjjehabGreatDoor
namespace Go.Proofs.YtmjjodficjjehabGreatDoor
open Go.ChangeShapes Go.WideShapes Go.ChangeAt Go.RowKit Go.Joins Go.Deep Go.ChangeMaps
variable {H : Type} {enc : TypeId × Value → H}
theorem cDyad : Tryz.prog.cellsOf 24 = 3 := by kernel_rfl
theorem cBool1 : Tryz.prog.cellsOf 4 = 1 := by kernel_rfl
theorem cNat1 : Tryz.prog.cellsOf 22 = 1 := by kernel_rfl
theorem cInt1 : Tryz.prog.cellsOf 3 = 1 := by kernel_rfl
set_option maxRecDepth 100000 in
theorem trod_dyad {w : World} {base : Nat} {spare : Nat → Bool} {held : Bool} {n : Nat} {c0 c1 c2 : Value} {y : DataW H × List MemPlace} (h : DataW.trod enc Tryz.prog w base spare held n 24 [c0, c1, c2] = some y) :
    ∃ (g : Bool) (s : ByteArray) (x : Int), c0 = .bool g ∧ c1 = .string s ∧ c2 = .int .i64 x ∧ y = (dyadD H g s x, []) ∧ s.size ≤ maxLen ∧ (Lit.int .i64 x).wf = true := by
  obtain ⟨y0, y1, y2, m, rfl, _, h0, h1, h2⟩ := trod_struct3 Tryz.underlying24 h
  simp only [cBool1, cNat1, cInt1, List.drop_zero, List.take_succ_cons, List.take_zero, List.drop_succ_cons] at h0 h1 h2
  obtain ⟨g, e0, rfl⟩ := DataW.trod_bool Tryz.underlying4 h0
  obtain ⟨s, e1, rfl, hs⟩ := DataW.trod_string Tryz.underlying22 h1
  obtain ⟨x, e2, rfl, wx⟩ := DataW.trod_int Tryz.underlying3 h2
  simp at e0 e1 e2
  subst e0 e1 e2
  exact ⟨g, s, x, rfl, rfl, rfl, rfl, hs, wx⟩
theorem shut_trod_dyad {W' : World} {b : Nat} {sp : Nat → Bool} {hd : Bool} {g : Bool} {s : ByteArray} {x : Int} (hs : s.size ≤ maxLen) (wx : (Lit.int .i64 x).wf = true) (n : Nat) :
    DataW.trod enc Tryz.prog W' b sp hd (n + 2) 24 [.bool g, .string s, .int .i64 x] = some (dyadD H g s x, []) := by
  have := trod_struct3_mk (enc := enc) (w := W') (base := b) (spare := sp) (held := hd) (n := n + 1) (cs := [.bool g, .string s, .int .i64 x]) (y0 := (.lit (.bool g), [])) (y1 := (.lit (.string s.data.toList), [])) (y2 := (.lit (.int .i64 x), [])) Tryz.underlying24 (by rw [cDyad]; rfl)
    (by simp [cBool1, DataW.trod, Tryz.underlying4]) (by simp [cNat1, DataW.trod, Tryz.underlying22, hs]) (by simp [cInt1, DataW.trod, Tryz.underlying3, wx])
  simpa [dyadD] using this
end Go.Proofs.YtmjjodficjjehabGreatDoor
namespace Go.Proofs.YtmjjodficjjehabGreatDoor
open Go.ChangeShapes Go.WideShapes Go.ChangeAt Go.RowKit Go.Joins Go.Deep Go.ChangeMaps
variable {H : Type} {enc : TypeId × Value → H}
def squareD (H : Type) (g : Bool) (s : ByteArray) (x : Int) (k : Bool) (r : ByteArray) (y : Int) (e : Int) : DataW H := .agg [dyadD H g s x, dyadD H k r y, .lit (.int .i64 e)]
theorem array7 {α : Type} {cs : Array α} (h : cs.size = 7) : ∃ c0 c1 c2 c3 c4 c5 c6, cs = #[c0, c1, c2, c3, c4, c5, c6] := by
  obtain ⟨l⟩ := cs
  match l, h with
  | [c0, c1, c2, c3, c4, c5, c6], _ => exact ⟨c0, c1, c2, c3, c4, c5, c6, rfl⟩
theorem cSquare : Tryz.prog.cellsOf 26 = 7 := by kernel_rfl
set_option maxRecDepth 100000 in
theorem open_square {w : World} {base : Nat} {spare : Nat → Bool} {held : Bool} {r : Go.Reach} {b0 : Nat} {v : Value} {d : DataW H} {p : List MemPlace}
    (hv : Value.okWide Tryz.prog w r b0 26 v) (h : DataW.Trod enc Tryz.prog w base spare held 26 v d p) :
    ∃ (g : Bool) (s : ByteArray) (x : Int) (k : Bool) (q : ByteArray) (y : Int) (e : Int), v = .agg #[.bool g, .string s, .int .i64 x, .bool k, .string q, .int .i64 y, .int .i64 e] ∧ d = squareD H g s x k q y e ∧ p = [] ∧ (s.size ≤ maxLen ∧ (Lit.int .i64 x).wf = true) ∧ (q.size ≤ maxLen ∧ (Lit.int .i64 y).wf = true) ∧ (Lit.int .i64 e).wf = true := by
  obtain ⟨cs, rfl, hsz⟩ := okWide_struct Tryz.underlying26 hv
  obtain ⟨c0, c1, c2, c3, c4, c5, c6, rfl⟩ := array7 (hsz.trans cSquare)
  obtain ⟨fuel, hf⟩ := h
  obtain ⟨y0, y1, y2, n, hx, _, h0, h1, h2⟩ := trod_struct3 Tryz.underlying26 hf
  simp only [Value.cells, cDyad, cInt1, List.drop_zero, List.take_succ_cons, List.take_zero, List.drop_succ_cons] at h0 h1 h2
  obtain ⟨g, s, x, rfl, rfl, rfl, rfl, hs, wx⟩ := trod_dyad h0
  obtain ⟨k, q, y, rfl, rfl, rfl, rfl, hq, wy⟩ := trod_dyad h1
  obtain ⟨e, e2, rfl, we⟩ := DataW.trod_int Tryz.underlying3 h2
  simp at e2
  subst e2
  simp only [Prod.mk.injEq] at hx
  obtain ⟨hd, hp⟩ := hx
  exact ⟨g, s, x, k, q, y, e, rfl, hd, hp, ⟨hs, wx⟩, ⟨hq, wy⟩, we⟩
set_option maxRecDepth 100000 in
theorem shut_square {W' : World} {b : Nat} {sp : Nat → Bool} {hd : Bool} {g : Bool} {s : ByteArray} {x : Int} {k : Bool} {q : ByteArray} {y : Int} {e : Int} (h1 : s.size ≤ maxLen ∧ (Lit.int .i64 x).wf = true) (h2 : q.size ≤ maxLen ∧ (Lit.int .i64 y).wf = true) (we : (Lit.int .i64 e).wf = true) :
    DataW.Trod enc Tryz.prog W' b sp hd 26 (.agg #[.bool g, .string s, .int .i64 x, .bool k, .string q, .int .i64 y, .int .i64 e]) (squareD H g s x k q y e) [] := by
  refine ⟨3, ?_⟩
  have := trod_struct3_mk (enc := enc) (w := W') (base := b) (spare := sp) (held := hd) (n := 2) (cs := [.bool g, .string s, .int .i64 x, .bool k, .string q, .int .i64 y, .int .i64 e]) (y0 := (dyadD H g s x, [])) (y1 := (dyadD H k q y, [])) (y2 := (.lit (.int .i64 e), [])) Tryz.underlying26 (by rw [cSquare]; rfl)
    (by simp only [cDyad, List.drop_zero, List.take_succ_cons, List.take_zero, List.drop_succ_cons]; exact shut_trod_dyad h1.1 h1.2 0) (by simp only [cDyad, List.drop_zero, List.take_succ_cons, List.take_zero, List.drop_succ_cons]; exact shut_trod_dyad h2.1 h2.2 0) (by simp [cInt1, DataW.trod, Tryz.underlying3, we])
  simpa [squareD, Value.cells] using this
end Go.Proofs.YtmjjodficjjehabGreatDoor
