/- Texts put together: PP. -/
import Derived.Test.YtajcapliokblfaaGreatDoorRows
import Derived.Test.YtajcapliokblfaaGreatDoorU8
import Derived.Test.YtajcapliokblfaaGreatDoorU3
import Derived.ProofKit
import Derived.Lib.SmallJoins
import Derived.OpenShut
import Derived.ShutString
set_option linter.unusedVariables false
namespace Go.Proofs.YtajcapliokblfaaGreatDoor
open Go Go.ChangeShapes Go.WideShapes Go.ChangeAt Go.RowKit Go.Joins
variable {H : Type} {enc : TypeId × Value → H}
/-- A Ratio's datum. -/
def ratD (H : Type) (r : Rx) : DataW H := .agg [.lit (.bool r.g), .lit (.string r.s.data.toList), .lit (.string r.t.data.toList)]
def Rx.max (r : Rx) : Prop := r.s.size ≤ maxLen ∧ r.t.size ≤ maxLen
theorem Rx.max.sz {r : Rx} (h : r.max) : r.s.size ≤ 9223372036854775807 ∧ r.t.size ≤ 9223372036854775807 := by
  have h1 := h.1; have h2 := h.2
  unfold maxLen at h1 h2
  exact ⟨by omega, by omega⟩
set_option maxRecDepth 100000 in
theorem open_rat {w : World} {base : Nat} {spare : Nat → Bool} {held : Bool} {r : Go.Reach} {b0 : Nat} {v : Value} {d : DataW H} {p : List MemPlace}
    (hv : Value.okWide Tryz.prog w r b0 24 v) (h : DataW.Trod enc Tryz.prog w base spare held 24 v d p) :
    ∃ a : Rx, v = .agg #[.bool a.g, .string a.s, .string a.t] ∧ d = ratD H a ∧ p = [] ∧ a.max := by
  obtain ⟨c0, c1, c2, y0, y1, y2, m, rfl, rfl, rfl, hy0, hy1, hy2⟩ := open_agg3 Tryz.underlying24 (by kernel_rfl) (by kernel_rfl) hv h
  obtain ⟨g, e0, rfl⟩ := DataW.trod_bool Tryz.underlying4 hy0
  obtain ⟨s, e1, rfl, hs⟩ := DataW.trod_string Tryz.underlying22 hy1
  obtain ⟨t, e2, rfl, ht⟩ := DataW.trod_string Tryz.underlying22 hy2
  simp at e0 e1 e2
  subst e0 e1 e2
  exact ⟨⟨g, s, t⟩, rfl, rfl, rfl, hs, ht⟩
set_option maxRecDepth 100000 in
theorem shut_rat {W' : World} {b : Nat} {sp : Nat → Bool} {hd : Bool} {a : Rx} (hm : a.max) :
    DataW.Trod enc Tryz.prog W' b sp hd 24 (.agg #[.bool a.g, .string a.s, .string a.t]) (ratD H a) [] := by
  simpa [ratD] using shut_agg3 (enc := enc) (w := W') (base := b) (spare := sp) (held := hd) (y0 := (.lit (.bool a.g), [])) (y1 := (.lit (.string a.s.data.toList), [])) (y2 := (.lit (.string a.t.data.toList), [])) Tryz.underlying24 (by kernel_rfl) (by kernel_rfl) ⟨1, by simp [DataW.trod, Tryz.underlying4]⟩ ⟨1, by simp [DataW.trod, Tryz.underlying22, hm.1]⟩ ⟨1, by simp [DataW.trod, Tryz.underlying22, hm.2]⟩
end Go.Proofs.YtajcapliokblfaaGreatDoor
