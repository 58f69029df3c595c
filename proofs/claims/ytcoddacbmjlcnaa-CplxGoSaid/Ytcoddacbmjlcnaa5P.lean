/- Helpers of layer 5's rows: a struct of two words, opened and shut. -/
import Derived.Test.YtcoddacbmjlcnaaRows
import Derived.ProofKit
import Derived.Lib.SmallJoins
import Derived.Test.YtcoddacbmjlcnaaPost
namespace Go.Proofs.Ytcoddacbmjlcnaa
open Go.ChangeShapes Go.WideShapes Go.ChangeAt Go.RowKit Go.Joins
theorem own5 : ownKnob Try.prog.godebug = none := by kernel_rfl
theorem u64_nat5 {n : Int} (h : (Lit.int .u64 n).wf = true) : ∃ k : Nat, k < 18446744073709551616 ∧ n = k := by
  have hx : 0 ≤ n ∧ n ≤ 18446744073709551615 := by simpa [Lit.wf, IntKind.min, IntKind.max, IntKind.signed, IntKind.bits] using h
  exact ⟨n.toNat, by omega, by omega⟩
theorem u32_nat5 {n : Int} (h : (Lit.int .u32 n).wf = true) : ∃ k : Nat, k < 4294967296 ∧ n = k := by
  have hx : 0 ≤ n ∧ n ≤ 4294967295 := by simpa [Lit.wf, IntKind.min, IntKind.max, IntKind.signed, IntKind.bits] using h
  exact ⟨n.toNat, by omega, by omega⟩
variable {H : Type} {enc : TypeId × Value → H}
def lw (a : Int) : DataW H := .lit (.int .u64 a)
theorem parts_open {w : World} {base : Nat} {spare : Nat → Bool} {held : Bool} {r : Reach} {b0 : Nat} {v : Value} {d : DataW H} {p : List MemPlace}
    (hv : Value.okWide Try.prog w r b0 24 v) (h : DataW.Trod enc Try.prog w base spare held 24 v d p) :
    ∃ a b : Int, v = .agg #[.int .u64 a, .int .u64 b] ∧ d = .agg [lw a, lw b] ∧ p = [] ∧ (Lit.int .u64 a).wf = true ∧ (Lit.int .u64 b).wf = true := by
  obtain ⟨c0, c1, y0, y1, m, rfl, rfl, rfl, hy0, hy1⟩ := open_agg2 Try.underlying24 (by kernel_rfl) (by kernel_rfl) hv h
  obtain ⟨x, e0, rfl, wx⟩ := DataW.trod_int Try.underlying22 hy0
  obtain ⟨y, e1, rfl, wy⟩ := DataW.trod_int Try.underlying22 hy1
  simp at e0 e1
  subst e0 e1
  exact ⟨x, y, rfl, rfl, rfl, wx, wy⟩
theorem parts_shut (W' : World) (b : Nat) (sp : Nat → Bool) (hd : Bool) (x y : Int) (wx : (Lit.int .u64 x).wf = true) (wy : (Lit.int .u64 y).wf = true) :
    DataW.Trod enc Try.prog W' b sp hd 24 (.agg #[.int .u64 x, .int .u64 y]) (.agg [lw x, lw y]) [] := by
  simpa using shut_agg2 (enc := enc) (w := W') (base := b) (spare := sp) (held := hd) (y0 := (lw x, [])) (y1 := (lw y, [])) Try.underlying24 (by kernel_rfl) (by kernel_rfl) ⟨1, by simp [DataW.trod, Try.underlying22, wx, lw]⟩ ⟨1, by simp [DataW.trod, Try.underlying22, wy, lw]⟩
end Go.Proofs.Ytcoddacbmjlcnaa
