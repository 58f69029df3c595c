/- Texts put together: Post DP. -/
import Derived.Below
import Derived.ChangeSame
import Derived.Test.YtcljdjocknfaiaaDoorRows
import Derived.ProofKit
import Derived.Lib.SmallJoins
import Derived.OpenShut
import Derived.ShutString
import Derived.Test.YtcljdjocknfaiaaDoorV8
namespace Go.Proofs.YtcljdjocknfaiaaDoor
open Go Go.RowKit Go.WideShapes Go.ChangeShapes
variable {H : Type} {enc : TypeId × Value → H} {P : Program}
theorem postBelow {f : Func} {s : ChangeSpec} {apart fresh handsOn again : Bool} {W W' : World} {args : Array Value} {v : Value} {ds gs : List (DataW H)} {places pa pv : List MemPlace}
    (whole : DataW.Whole enc P f.params.toList s.vars apart W args.toList ds gs places)
    (res : ∀ (b : Nat) (sp : Nat → Bool) (hd : Bool), DataW.TrodAll enc P W' b sp hd f.resultTypes.toList (v.resultList f.resultTypes.size) (s.fn H (ds ++ gs)).results [])
    (left : ∀ sp : Nat → Bool, (∀ p ∈ places, sp p.block = true) → DataW.TrodAll enc P W' 0 sp true f.params.toList args.toList (s.fn H (ds ++ gs)).args pa)
    (vars : ∀ sp : Nat → Bool, (∀ p ∈ places, sp p.block = true) → DataW.TrodVars enc P W' sp s.vars (s.fn H (ds ++ gs)).vars pv)
    (split : places = pa ++ pv) (below : Below W.heap.size W W')
    (ok : ∀ (j : Nat) (t : TypeId) (r : Value), f.resultTypes[j]? = some t → (v.resultList f.resultTypes.size)[j]? = some r → Value.okWide P W' .any 0 t r) :
    s.post enc P f apart fresh handsOn again W args v W' := by
  have old : ∀ p ∈ places, p.block < W.heap.size := fun p hp => whole.lt p hp
  have same : ∀ p ∈ places, (fun b => decide (b < W.heap.size)) p.block = true := fun p hp => decide_eq_true (old p hp)
  have kept : W.keptBut W' (fun p => p ∈ places ∧ p ∈ pa ++ pv) :=
    World.keptBut_mono (fun p hp => ⟨hp, split ▸ hp⟩) (below.frame (· ∈ places))
  have free : ∀ b off, MemPlace.cell b off ∈ pa ++ pv → W'.frozen? ⟨b, off, none⟩ = false := fun b off hp => by
    have hin : MemPlace.cell b off ∈ places := split ▸ hp
    rw [below.frozen (p := ⟨b, off, none⟩) (old _ hin)]
    obtain ⟨_, _, _, _, _, hz, _⟩ := whole
    exact hz b off hin
  have apartNow : apart = true → (pa ++ pv).Nodup := fun ha => by
    obtain ⟨_, _, _, _, _, _, hn⟩ := whole
    exact split ▸ hn ha
  refine ⟨ds, gs, places, [], pa, pv, whole, res _ _ _, left _ same, vars _ same, ?_, fun _ => ⟨ok, _, _, ([] ++ pa) ++ pv, ⟨[] ++ pa, pv, trodAll_append (left _ (fun _ _ => rfl)) (res _ _ _), vars _ (fun _ _ => rfl), rfl, ?_, ?_⟩, ?_⟩⟩
  · exact World.keptBut_mono (fun p hp => ⟨hp.1, Or.inr (List.mem_append.1 hp.2)⟩) kept
  · intro b off hp; exact free b off (by simpa using hp)
  · intro ha; simpa using apartNow ha
  · intro p hp _; rw [split]; simpa using hp
end Go.Proofs.YtcljdjocknfaiaaDoor
set_option linter.unusedVariables false
namespace Go.Proofs.YtcljdjocknfaiaaDoor
open Go.ChangeShapes Go.WideShapes Go.ChangeAt Go.RowKit Go.Joins
variable {H : Type} {enc : TypeId × Value → H}
/-- A Dyad's datum. -/
def dyadD (H : Type) (g : Bool) (s : ByteArray) (x : Int) : DataW H := .agg [.lit (.bool g), .lit (.string s.data.toList), .lit (.int .i64 x)]
set_option maxRecDepth 100000 in
theorem open_dyad {w : World} {base : Nat} {spare : Nat → Bool} {held : Bool} {r : Go.Reach} {b0 : Nat} {v : Value} {d : DataW H} {p : List MemPlace}
    (hv : Value.okWide Tryd.prog w r b0 24 v) (h : DataW.Trod enc Tryd.prog w base spare held 24 v d p) :
    ∃ (g : Bool) (s : ByteArray) (x : Int), v = .agg #[.bool g, .string s, .int .i64 x] ∧ d = dyadD H g s x ∧ p = [] ∧ s.size ≤ maxLen ∧ (Lit.int .i64 x).wf = true := by
  obtain ⟨c0, c1, c2, y0, y1, y2, m, rfl, rfl, rfl, hy0, hy1, hy2⟩ := open_agg3 Tryd.underlying24 (by kernel_rfl) (by kernel_rfl) hv h
  obtain ⟨g, e0, rfl⟩ := DataW.trod_bool Tryd.underlying4 hy0
  obtain ⟨s, e1, rfl, hs⟩ := DataW.trod_string Tryd.underlying22 hy1
  obtain ⟨x, e2, rfl, wx⟩ := DataW.trod_int Tryd.underlying3 hy2
  simp at e0 e1 e2
  subst e0 e1 e2
  exact ⟨g, s, x, rfl, rfl, rfl, hs, wx⟩
set_option maxRecDepth 100000 in
theorem shut_dyad {W' : World} {b : Nat} {sp : Nat → Bool} {hd : Bool} {g : Bool} {s : ByteArray} {x : Int} (hs : s.size ≤ maxLen) (wx : (Lit.int .i64 x).wf = true) :
    DataW.Trod enc Tryd.prog W' b sp hd 24 (.agg #[.bool g, .string s, .int .i64 x]) (dyadD H g s x) [] := by
  simpa [dyadD] using shut_agg3 (enc := enc) (w := W') (base := b) (spare := sp) (held := hd) (y0 := (.lit (.bool g), [])) (y1 := (.lit (.string s.data.toList), [])) (y2 := (.lit (.int .i64 x), [])) Tryd.underlying24 (by kernel_rfl) (by kernel_rfl) ⟨1, by simp [DataW.trod, Tryd.underlying4]⟩ ⟨1, by simp [DataW.trod, Tryd.underlying22, hs]⟩ ⟨1, by simp [DataW.trod, Tryd.underlying3, wx]⟩
theorem float_bound {b : Nat} (h : (Lit.float .f64 b).wf = true) : b < 18446744073709551616 := by
  unfold Lit.wf at h
  exact of_decide_eq_true h
end Go.Proofs.YtcljdjocknfaiaaDoor
