/- What the row's list gives: the library's tables and its two errors in the world of the call. -/
import Derived.Test.YtbmfbmepgcbhfaaDoorTx8
import Derived.Test.YtbmfbmepgcbhfaaDoorRows
import Derived.LaidSub
import Derived.Lib.LaidTab
import Derived.Stop.LaidErr
import Derived.LaidLaws
set_option linter.unusedSimpArgs false
set_option linter.unusedVariables false
namespace Go.Proofs.YtbmfbmepgcbhfaaDoor
open Go Go.RowKit

theorem size_of_cell {w : World} {b o : Nat} {v : Value} (h : w.cell? ⟨b, o, none⟩ = some v) : b < w.heap.size := by
  unfold World.cell? at h
  cases hb : w.heap[b]? with
  | none => simp [hb] at h
  | some x => exact (Array.getElem?_eq_some_iff.1 hb).1
theorem gDe : Tryd.prog.globalNamed "math/bits.deBruijn64tab" = some 1 := by kernel_rfl
theorem gDeType : (Tryd.prog.globals[1]?).map (·.type) = some 69 := by kernel_rfl
theorem gPowType : (Tryd.prog.globals[2]?).map (·.type) = some 87 := by kernel_rfl
theorem cDe : Tryd.prog.cellsOf 69 = 64 := by kernel_rfl
theorem cU8 : Tryd.prog.cellsOf 5 = 1 := by kernel_rfl
theorem cPow : Tryd.prog.cellsOf 87 = 20 := by kernel_rfl
theorem cU64 : Tryd.prog.cellsOf 22 = 1 := by kernel_rfl
theorem tabDe {W : World} {laid : List (String × DataW Unit)} (hl : laid.filter (fun x => x.1 == "math/bits.deBruijn64tab") = [("math/bits.deBruijn64tab", Rows.laid_math_bits_deBruijn64tab)]) (hL : laidMetH Tryd.prog laid W) : Lib.TabIs Tryd.prog W "math/bits.deBruijn64tab" .u8 (Lib.deBruijn64tab.map Int.ofNat) := by
  have h := hL.filter (fun x => x.1 == "math/bits.deBruijn64tab")
  rw [hl] at h
  exact Lib.tabIs_of_head (rest := []) gDe gDeType Tryd.underlying69 Tryd.underlying5 cU8 cDe h
theorem tabPow {W : World} {laid : List (String × DataW Unit)} (hl : laid.filter (fun x => x.1 == "internal/strconv.uint64pow10") = [("internal/strconv.uint64pow10", Rows.laid_internal_strconv_uint64pow10)]) (hL : laidMetH Tryd.prog laid W) : Lib.TabIs Tryd.prog W "internal/strconv.uint64pow10" .u64 Lib.pow10Tab := by
  have h := hL.filter (fun x => x.1 == "internal/strconv.uint64pow10")
  rw [hl] at h
  exact Lib.tabIs_of_head (rest := []) gPow gPowType Tryd.underlying87 Tryd.underlying22 cU64 cPow h
theorem gErrSType : (Tryd.prog.globals[4]?).map (·.type) = some 61 := by kernel_rfl
theorem gErrRType : (Tryd.prog.globals[5]?).map (·.type) = some 61 := by kernel_rfl
theorem cErrS : Tryd.prog.cellsOf 103 = 1 := by kernel_rfl
theorem cStr : Tryd.prog.cellsOf 9 = 1 := by kernel_rfl
theorem star_err : "*" ++ "errors.errorString" = "*errors.errorString" := by decide
theorem row_err (u : TypeId) (h : Tryd.prog.typeName? 3 u = some "*errors.errorString") : u = 101 :=
  typeName_ptr_named (nm := "errors.errorString") (by rw [star_err]; kernel_rfl) (by kernel_rfl) (by decide) u (by rw [star_err]; exact h)
theorem errS_of {W : World} {laid : List (String × DataW Unit)} (hl : laid.filter (fun x => x.1 == "strconv.ErrSyntax") = [("strconv.ErrSyntax", Rows.laid_strconv_ErrSyntax)]) (hL : laidMetH Tryd.prog laid W) : ∃ te pe, W.var? Tryd.prog "strconv.ErrSyntax" = some #[.iface te pe] := by
  have h := hL.filter (fun x => x.1 == "strconv.ErrSyntax")
  rw [hl] at h
  obtain ⟨a, s, hv, -, -, -⟩ := laid_sentinel (r := []) h gErrS gErrSType Tryd.underlying61 row_err Tryd.underlying101 Tryd.underlying103 rfl rfl Tryd.underlying9 cErrS cStr
  exact ⟨_, _, hv⟩
theorem errR_of {W : World} {laid : List (String × DataW Unit)} (hl : laid.filter (fun x => x.1 == "strconv.ErrRange") = [("strconv.ErrRange", Rows.laid_strconv_ErrRange)]) (hL : laidMetH Tryd.prog laid W) : ∃ te pe, W.var? Tryd.prog "strconv.ErrRange" = some #[.iface te pe] := by
  have h := hL.filter (fun x => x.1 == "strconv.ErrRange")
  rw [hl] at h
  obtain ⟨a, s, hv, -, -, -⟩ := laid_sentinel (r := []) h gErrR gErrRType Tryd.underlying61 row_err Tryd.underlying101 Tryd.underlying103 rfl rfl Tryd.underlying9 cErrS cStr
  exact ⟨_, _, hv⟩
theorem tabR_of {W : World} {laid : List (String × DataW Unit)} (hl : laid = Rows.bitsTextsRow.laid) (hL : laidMetH Tryd.prog laid W) (hS : W.ShapedOpen Tryd.prog) : TabR W := by
  subst hl
  have h1 := tabDe (by kernel_rfl) hL
  have h2 := tabPow (by kernel_rfl) hL
  obtain ⟨m, hm⟩ := Tryd.laysM145.s1_3 W hS
  have c1 : TabAt 1 Lib.deBruijn64tab W := fun j hj => by
    have := h1.cell gDe j (by simpa using hj)
    rw [this]; simp [List.getD]
    cases Lib.deBruijn64tab[j]? <;> rfl
  have c2 := h2.cell gPow 0 (by decide)
  exact ⟨⟨⟨c1, size_of_cell (c1 0 (by decide))⟩, h2, size_of_cell c2⟩, ⟨m, hm⟩, size_of_cell hm⟩
theorem tabE_of {W : World} {laid : List (String × DataW Unit)} (hl : laid = Rows.bitsTextsRow.laid) (k3 : laid.filter (fun x => x.1 == "strconv.ErrSyntax") = [("strconv.ErrSyntax", Rows.laid_strconv_ErrSyntax)]) (k4 : laid.filter (fun x => x.1 == "strconv.ErrRange") = [("strconv.ErrRange", Rows.laid_strconv_ErrRange)]) (hL : laidMetH Tryd.prog laid W) (hS : W.ShapedOpen Tryd.prog) : TabE W := by
  have h0 := tabR_of hl hL hS
  obtain ⟨te, pe, h3⟩ := errS_of k3 hL
  obtain ⟨tr, pr, h4⟩ := errR_of k4 hL
  have c3 := World.var?_cell gErrS h3 0
  have c4 := World.var?_cell gErrR h4 0
  exact ⟨h0, ⟨⟨te, pe, h3⟩, size_of_cell (by simpa using c3)⟩, ⟨tr, pr, h4⟩, size_of_cell (by simpa using c4)⟩
end Go.Proofs.YtbmfbmepgcbhfaaDoor
