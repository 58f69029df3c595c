/- What a row's list gives: the tables of the library in the world of the call. -/
import Derived.Test.YtpfgefeehagjcaaDoorL1
import Derived.Test.YtpfgefeehagjcaaDoorRows
import Derived.LaidSub
import Derived.Lib.LaidTab
set_option linter.unusedSimpArgs false
set_option linter.unusedVariables false
namespace Go.Proofs.YtpfgefeehagjcaaDoor
open Go Go.RowKit

theorem size_of_cell {w : World} {b o : Nat} {v : Value} (h : w.cell? ⟨b, o, none⟩ = some v) : b < w.heap.size := by
  unfold World.cell? at h
  cases hb : w.heap[b]? with
  | none => simp [hb] at h
  | some x => exact (Array.getElem?_eq_some_iff.1 hb).1
theorem gDe : Tryd.prog.globalNamed "math/bits.deBruijn64tab" = some 1 := by kernel_rfl
theorem gDeType : (Tryd.prog.globals[1]?).map (·.type) = some 65 := by kernel_rfl
theorem gPowType : (Tryd.prog.globals[2]?).map (·.type) = some 95 := by kernel_rfl
theorem cDe : Tryd.prog.cellsOf 65 = 64 := by kernel_rfl
theorem cU8 : Tryd.prog.cellsOf 5 = 1 := by kernel_rfl
theorem cPow : Tryd.prog.cellsOf 95 = 20 := by kernel_rfl
theorem cU64 : Tryd.prog.cellsOf 22 = 1 := by kernel_rfl
theorem tabDe {W : World} {laid : List (String × DataW Unit)} (hl : laid.filter (fun x => x.1 == "math/bits.deBruijn64tab") = [("math/bits.deBruijn64tab", Rows.laid_math_bits_deBruijn64tab)]) (hL : laidMetH Tryd.prog laid W) : Lib.TabIs Tryd.prog W "math/bits.deBruijn64tab" .u8 (Lib.deBruijn64tab.map Int.ofNat) := by
  have h := hL.filter (fun x => x.1 == "math/bits.deBruijn64tab")
  rw [hl] at h
  exact Lib.tabIs_of_head (rest := []) gDe gDeType Tryd.underlying65 Tryd.underlying5 cU8 cDe h
theorem tabPow {W : World} {laid : List (String × DataW Unit)} (hl : laid.filter (fun x => x.1 == "internal/strconv.uint64pow10") = [("internal/strconv.uint64pow10", Rows.laid_internal_strconv_uint64pow10)]) (hL : laidMetH Tryd.prog laid W) : Lib.TabIs Tryd.prog W "internal/strconv.uint64pow10" .u64 Lib.pow10Tab := by
  have h := hL.filter (fun x => x.1 == "internal/strconv.uint64pow10")
  rw [hl] at h
  exact Lib.tabIs_of_head (rest := []) gPow gPowType Tryd.underlying95 Tryd.underlying22 cU64 cPow h
theorem tabR_of {W : World} {laid : List (String × DataW Unit)} (hl : laid = Rows.bitsPartsRow.laid) (hL : laidMetH Tryd.prog laid W) (hS : W.ShapedOpen Tryd.prog) : TabR W := by
  subst hl
  have h1 := tabDe (by kernel_rfl) hL
  have h2 := tabPow (by kernel_rfl) hL
  obtain ⟨m, hm⟩ := Tryd.laysM145.s1_3 W hS
  have c1 : TabAt 1 Lib.deBruijn64tab W := fun j hj => by
    have := h1.cell gDe j (by simpa using hj)
    rw [this]; simp [List.getD]
    cases Lib.deBruijn64tab[j]? <;> rfl
  have c2 := h2.cell gPow 0 (by decide)
  exact ⟨⟨⟨c1, size_of_cell (c1 0 (by decide))⟩, h2, size_of_cell c2⟩, ⟨m, hm⟩, size_of_cell hm⟩
end Go.Proofs.YtpfgefeehagjcaaDoor
