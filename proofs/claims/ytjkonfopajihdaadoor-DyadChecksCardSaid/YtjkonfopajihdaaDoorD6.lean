/- Layer 3 (dyad): awake, in a world that holds the table of trailing noughts. -/
import Derived.Test.YtjkonfopajihdaaDoorEvT
set_option linter.unusedSimpArgs false
set_option linter.unusedVariables false
namespace Go.Proofs.YtjkonfopajihdaaDoor
open Go Go.RowKit

set_option maxRecDepth 100000 in
theorem awake3_says : saysG Tryd.prog glT 5000 19 [] true = true := by kernel_rfl
theorem awake3_c (w : World) (hg : Globs glT w) : Calls Tryd.prog 19 #[] w fun e w' => e = .returned (.bool true) ∧ Below w.heap.size w w' := closed_with (by kernel_rfl) awake3_says hg
theorem Globs.below {gl : List (Nat × List AV)} {w w' : World} (h : Globs gl w) {n : Nat} (hb : Below n w w') (hn : w.heap.size ≤ n) : Globs gl w' := fun g B hB => by
  obtain ⟨h1, h2⟩ := h g B hB
  refine ⟨Nat.lt_of_lt_of_le h1 hb.size, fun i v hv => ?_⟩
  obtain ⟨u, e, c⟩ := h2 i v hv
  exact ⟨u, e, (hb.cell (p := ⟨g, i, none⟩) (by show g < n; omega)).trans c⟩
end Go.Proofs.YtjkonfopajihdaaDoor
