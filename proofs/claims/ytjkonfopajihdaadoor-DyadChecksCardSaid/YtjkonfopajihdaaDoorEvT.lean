/- The library's table of trailing noughts, as a variable that is known. -/
import Derived.Test.YtjkonfopajihdaaDoorEv11
import Derived.Test.YtjkonfopajihdaaDoorRows
import Derived.LaidSub
import Derived.Lib.LaidTab
import Derived.Lib.TrailingZeros
set_option linter.unusedSimpArgs false
set_option linter.unusedVariables false
namespace Go.Proofs.YtjkonfopajihdaaDoor
open Go Go.RowKit

theorem size_of_cell {w : World} {b o : Nat} {v : Value} (h : w.cell? ⟨b, o, none⟩ = some v) : b < w.heap.size := by
  unfold World.cell? at h
  cases hb : w.heap[b]? with
  | none => simp [hb] at h
  | some x => exact (Array.getElem?_eq_some_iff.1 hb).1
theorem gDe : Tryd.prog.globalNamed "math/bits.deBruijn64tab" = some 1 := by kernel_rfl
theorem gDeType : (Tryd.prog.globals[1]?).map (·.type) = some 142 := by kernel_rfl
theorem cDe : Tryd.prog.cellsOf 142 = 64 := by kernel_rfl
theorem cU8 : Tryd.prog.cellsOf 5 = 1 := by kernel_rfl
def glT : List (Nat × List AV) := [(1, Lib.deBruijn64tab.map fun (x : Nat) => AV.lit (.int .u8 (x : Nat)))]
theorem globs_of {W : World} {laid : List (String × DataW Unit)} (hl : laid.filter (fun x => x.1 == "math/bits.deBruijn64tab") = [("math/bits.deBruijn64tab", Rows.laid_math_bits_deBruijn64tab)]) (hL : laidMetH Tryd.prog laid W) : Globs glT W := by
  have h := hL.filter (fun x => x.1 == "math/bits.deBruijn64tab")
  rw [hl] at h
  have h1 : Lib.TabIs Tryd.prog W "math/bits.deBruijn64tab" .u8 (Lib.deBruijn64tab.map Int.ofNat) := Lib.tabIs_of_head (rest := []) gDe gDeType Tryd.underlying142 Tryd.underlying5 cU8 cDe h
  have hlen : Lib.deBruijn64tab.length = 64 := by decide
  have c1 : ∀ j, j < 64 → W.cell? ⟨1, j, none⟩ = some (.int .u8 ((Lib.deBruijn64tab.getD j 0 : Nat) : Int)) := fun j hj => by
    have := h1.cell gDe j (by rw [List.length_map, hlen]; exact hj)
    rw [this]; simp [List.getD]
    cases Lib.deBruijn64tab[j]? <;> rfl
  intro g B hB
  unfold glT at hB
  rw [look_cons] at hB
  split at hB
  · rename_i e
    injection hB with hB
    have e : 1 = g := e
    subst e hB
    refine ⟨size_of_cell (c1 0 (by decide)), fun i v hv => ?_⟩
    have hi : i < 64 := by
      have := (List.getElem?_eq_some_iff.1 hv).1
      rw [List.length_map, hlen] at this; exact this
    rw [List.getElem?_map] at hv
    cases hx : Lib.deBruijn64tab[i]? with
    | none => rw [hx] at hv; cases hv
    | some x =>
      rw [hx] at hv
      injection hv with hv
      refine ⟨_, hv.symm, ?_⟩
      rw [c1 i hi]
      simp [List.getD, hx]
  · cases hB
end Go.Proofs.YtjkonfopajihdaaDoor
