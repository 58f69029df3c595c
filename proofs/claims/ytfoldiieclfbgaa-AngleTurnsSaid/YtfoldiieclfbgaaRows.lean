/-
  No cell of these rows narrows 'for every input' (looked for: loops, veiled, ifaces, maps, wideKeys, modest, calm, conditions, laid).
  DERIVED. THE GIVEN ROWS OF THIS SEAT. 11 by the template 'for every input the law returns true; each argument reads behind the call as it read before'; 0 by the template 'total and deterministic' (their statements: YtfoldiieclfbgaaTotals.lean).
  GIVEN WITH THE SEED: the statements are not yours to turn. If you find one false, say at which input.
  Laid BY PROGRAM, IN A SANDBOX (cutbox-rows.mjs): the forced cells as the released guide's own fill.sh prints them over the translation ea031af4f2a66b9b… (all of the seat's roots in one cut). By AI agents, Wed Nov 11 2026. No macro, syntax, notation, axiom, sorry.
-/
import Derived.Test.YtfoldiieclfbgaaChecked
import GoSem.Claim
import GoSem.ClaimJoined
import GoSem.ClaimMapViews
import Derived.JoinedTies
import Derived.KernelRfl
namespace Go.Proofs.Ytfoldiieclfbgaa
/- THE CELL 'sum', in the pinned program and in every row, IS THE sha256 OF THE DUMP (.gsa) THAT YtfoldiieclfbgaaProg.lean LOADS. Nothing in Lean hashes anything: it is a label: what it is worth is what the hold of that sum in a sandbox is worth. -/
noncomputable def Try.pinned : Pinned := { name := "ytfoldiieclfbgaa", sum := "ea031af4f2a66b9b32f4a2e5b16aca3d883f67b3d029dfce7c5bc1b5be07668a", checked := Try.checked }
namespace Rows
def none {H : Type} : Left H := { results := [], args := [] }

/-- 'filigreelaw21.AngleMakes': WHATEVER THE INPUT: true; the input reads as it did. -/
def angleMakesSpec : ChangeSpec := { name := "angleMakes", fn := fun _ => fun
  | [d1, d2, d3, d4] => { results := [.lit (.bool true)], args := [d1, d2, d3, d4] }
  | _ => none }
def angleMakesRow : OpenClaim := { program := "ytfoldiieclfbgaa", sum := "ea031af4f2a66b9b32f4a2e5b16aca3d883f67b3d029dfce7c5bc1b5be07668a", func := "filigree/filigreelaw21.AngleMakes", spec := "angleMakes", unfollowed := true, recurses := true, apart := false }
def AngleMakesSaid : Prop := angleMakesRow.holds Try.pinned (OpenSpec.ofChange angleMakesSpec)

/-- ITS FALSE NEIGHBOUR: 'it returns false'. Refute it at one input. -/
def angleMakesWrong : ChangeSpec := { name := "angleMakes", fn := fun _ => fun
  | [d1, d2, d3, d4] => { results := [.lit (.bool false)], args := [d1, d2, d3, d4] }
  | _ => none }
def AngleMakesWrongFalsely : Prop := angleMakesRow.holds Try.pinned (OpenSpec.ofChange angleMakesWrong)

/-- 'filigreelaw21.AngleTurns': WHATEVER THE INPUT: true; the input reads as it did. -/
def angleTurnsSpec : ChangeSpec := { name := "angleTurns", fn := fun _ => fun
  | [d1, d2, d3] => { results := [.lit (.bool true)], args := [d1, d2, d3] }
  | _ => none }
def angleTurnsRow : OpenClaim := { program := "ytfoldiieclfbgaa", sum := "ea031af4f2a66b9b32f4a2e5b16aca3d883f67b3d029dfce7c5bc1b5be07668a", func := "filigree/filigreelaw21.AngleTurns", spec := "angleTurns", unfollowed := true, recurses := true, apart := false }
def AngleTurnsSaid : Prop := angleTurnsRow.holds Try.pinned (OpenSpec.ofChange angleTurnsSpec)

/-- ITS FALSE NEIGHBOUR: 'it returns false'. Refute it at one input. -/
def angleTurnsWrong : ChangeSpec := { name := "angleTurns", fn := fun _ => fun
  | [d1, d2, d3] => { results := [.lit (.bool false)], args := [d1, d2, d3] }
  | _ => none }
def AngleTurnsWrongFalsely : Prop := angleTurnsRow.holds Try.pinned (OpenSpec.ofChange angleTurnsWrong)

/-- 'filigreelaw21.AngleOrbits': WHATEVER THE INPUT: true; the input reads as it did. -/
def angleOrbitsSpec : ChangeSpec := { name := "angleOrbits", fn := fun _ => fun
  | [d1, d2, d3] => { results := [.lit (.bool true)], args := [d1, d2, d3] }
  | _ => none }
def angleOrbitsRow : OpenClaim := { program := "ytfoldiieclfbgaa", sum := "ea031af4f2a66b9b32f4a2e5b16aca3d883f67b3d029dfce7c5bc1b5be07668a", func := "filigree/filigreelaw21.AngleOrbits", spec := "angleOrbits", unfollowed := true, recurses := true, apart := false }
def AngleOrbitsSaid : Prop := angleOrbitsRow.holds Try.pinned (OpenSpec.ofChange angleOrbitsSpec)

/-- ITS FALSE NEIGHBOUR: 'it returns false'. Refute it at one input. -/
def angleOrbitsWrong : ChangeSpec := { name := "angleOrbits", fn := fun _ => fun
  | [d1, d2, d3] => { results := [.lit (.bool false)], args := [d1, d2, d3] }
  | _ => none }
def AngleOrbitsWrongFalsely : Prop := angleOrbitsRow.holds Try.pinned (OpenSpec.ofChange angleOrbitsWrong)

/-- 'filigreelaw21.AngleAll': WHATEVER THE INPUT: true; the input reads as it did. -/
def angleAllSpec : ChangeSpec := { name := "angleAll", fn := fun _ => fun
  | [d1, d2] => { results := [.lit (.bool true)], args := [d1, d2] }
  | _ => none }
def angleAllRow : OpenClaim := { program := "ytfoldiieclfbgaa", sum := "ea031af4f2a66b9b32f4a2e5b16aca3d883f67b3d029dfce7c5bc1b5be07668a", func := "filigree/filigreelaw21.AngleAll", spec := "angleAll", inPlace := ["math/bits.Add64", "math/bits.Sub64"], unfollowed := true, recurses := true, apart := false }
def AngleAllSaid : Prop := angleAllRow.holds Try.pinned (OpenSpec.ofChange angleAllSpec)

/-- ITS FALSE NEIGHBOUR: 'it returns false'. Refute it at one input. -/
def angleAllWrong : ChangeSpec := { name := "angleAll", fn := fun _ => fun
  | [d1, d2] => { results := [.lit (.bool false)], args := [d1, d2] }
  | _ => none }
def AngleAllWrongFalsely : Prop := angleAllRow.holds Try.pinned (OpenSpec.ofChange angleAllWrong)

/-- 'filigreelaw21.AngleBetween': WHATEVER THE INPUT: true; the input reads as it did. -/
def angleBetweenSpec : ChangeSpec := { name := "angleBetween", fn := fun _ => fun
  | [d1, d2, d3] => { results := [.lit (.bool true)], args := [d1, d2, d3] }
  | _ => none }
def angleBetweenRow : OpenClaim := { program := "ytfoldiieclfbgaa", sum := "ea031af4f2a66b9b32f4a2e5b16aca3d883f67b3d029dfce7c5bc1b5be07668a", func := "filigree/filigreelaw21.AngleBetween", spec := "angleBetween", unfollowed := true, recurses := true, apart := false }
def AngleBetweenSaid : Prop := angleBetweenRow.holds Try.pinned (OpenSpec.ofChange angleBetweenSpec)

/-- ITS FALSE NEIGHBOUR: 'it returns false'. Refute it at one input. -/
def angleBetweenWrong : ChangeSpec := { name := "angleBetween", fn := fun _ => fun
  | [d1, d2, d3] => { results := [.lit (.bool false)], args := [d1, d2, d3] }
  | _ => none }
def AngleBetweenWrongFalsely : Prop := angleBetweenRow.holds Try.pinned (OpenSpec.ofChange angleBetweenWrong)

/-- 'filigreelaw21.AngleDen': WHATEVER THE INPUT: true; the input reads as it did. -/
def angleDenSpec : ChangeSpec := { name := "angleDen", fn := fun _ => fun
  | [d1, d2, d3] => { results := [.lit (.bool true)], args := [d1, d2, d3] }
  | _ => none }
def angleDenRow : OpenClaim := { program := "ytfoldiieclfbgaa", sum := "ea031af4f2a66b9b32f4a2e5b16aca3d883f67b3d029dfce7c5bc1b5be07668a", func := "filigree/filigreelaw21.AngleDen", spec := "angleDen", unfollowed := true, recurses := true, apart := false }
def AngleDenSaid : Prop := angleDenRow.holds Try.pinned (OpenSpec.ofChange angleDenSpec)

/-- ITS FALSE NEIGHBOUR: 'it returns false'. Refute it at one input. -/
def angleDenWrong : ChangeSpec := { name := "angleDen", fn := fun _ => fun
  | [d1, d2, d3] => { results := [.lit (.bool false)], args := [d1, d2, d3] }
  | _ => none }
def AngleDenWrongFalsely : Prop := angleDenRow.holds Try.pinned (OpenSpec.ofChange angleDenWrong)

/-- 'filigreelaw21.AngleBack': WHATEVER THE INPUT: true; the input reads as it did. -/
def angleBackSpec : ChangeSpec := { name := "angleBack", fn := fun _ => fun
  | [d1, d2, d3, d4] => { results := [.lit (.bool true)], args := [d1, d2, d3, d4] }
  | _ => none }
def angleBackRow : OpenClaim := { program := "ytfoldiieclfbgaa", sum := "ea031af4f2a66b9b32f4a2e5b16aca3d883f67b3d029dfce7c5bc1b5be07668a", func := "filigree/filigreelaw21.AngleBack", spec := "angleBack", unfollowed := true, recurses := true, apart := false }
def AngleBackSaid : Prop := angleBackRow.holds Try.pinned (OpenSpec.ofChange angleBackSpec)

/-- ITS FALSE NEIGHBOUR: 'it returns false'. Refute it at one input. -/
def angleBackWrong : ChangeSpec := { name := "angleBack", fn := fun _ => fun
  | [d1, d2, d3, d4] => { results := [.lit (.bool false)], args := [d1, d2, d3, d4] }
  | _ => none }
def AngleBackWrongFalsely : Prop := angleBackRow.holds Try.pinned (OpenSpec.ofChange angleBackWrong)

/-- 'filigreelaw21.AngleCounts': WHATEVER THE INPUT: true; the input reads as it did. -/
def angleCountsSpec : ChangeSpec := { name := "angleCounts", fn := fun _ => fun
  | [d1, d2, d3] => { results := [.lit (.bool true)], args := [d1, d2, d3] }
  | _ => none }
def angleCountsRow : OpenClaim := { program := "ytfoldiieclfbgaa", sum := "ea031af4f2a66b9b32f4a2e5b16aca3d883f67b3d029dfce7c5bc1b5be07668a", func := "filigree/filigreelaw21.AngleCounts", spec := "angleCounts", inPlace := ["math/bits.Add64", "math/bits.Sub64"], unfollowed := true, recurses := true, apart := false }
def AngleCountsSaid : Prop := angleCountsRow.holds Try.pinned (OpenSpec.ofChange angleCountsSpec)

/-- ITS FALSE NEIGHBOUR: 'it returns false'. Refute it at one input. -/
def angleCountsWrong : ChangeSpec := { name := "angleCounts", fn := fun _ => fun
  | [d1, d2, d3] => { results := [.lit (.bool false)], args := [d1, d2, d3] }
  | _ => none }
def AngleCountsWrongFalsely : Prop := angleCountsRow.holds Try.pinned (OpenSpec.ofChange angleCountsWrong)

/-- 'filigreelaw21.AngleSpells': WHATEVER THE INPUT: true; the input reads as it did. -/
def angleSpellsSpec : ChangeSpec := { name := "angleSpells", fn := fun _ => fun
  | [d1, d2, d3] => { results := [.lit (.bool true)], args := [d1, d2, d3] }
  | _ => none }
def angleSpellsRow : OpenClaim := { program := "ytfoldiieclfbgaa", sum := "ea031af4f2a66b9b32f4a2e5b16aca3d883f67b3d029dfce7c5bc1b5be07668a", func := "filigree/filigreelaw21.AngleSpells", spec := "angleSpells", inPlace := ["math/bits.Add64", "math/bits.Sub64"], unfollowed := true, recurses := true, named := ["math/bits.divideError", "math/bits.overflowError"], apart := false }
def AngleSpellsSaid : Prop := angleSpellsRow.holds Try.pinned (OpenSpec.ofChange angleSpellsSpec)

/-- ITS FALSE NEIGHBOUR: 'it returns false'. Refute it at one input. -/
def angleSpellsWrong : ChangeSpec := { name := "angleSpells", fn := fun _ => fun
  | [d1, d2, d3] => { results := [.lit (.bool false)], args := [d1, d2, d3] }
  | _ => none }
def AngleSpellsWrongFalsely : Prop := angleSpellsRow.holds Try.pinned (OpenSpec.ofChange angleSpellsWrong)

/-- 'filigreelaw21.AngleRound': WHATEVER THE INPUT: true; the input reads as it did. -/
def angleRoundSpec : ChangeSpec := { name := "angleRound", fn := fun _ => fun
  | [d1, d2, d3, d4] => { results := [.lit (.bool true)], args := [d1, d2, d3, d4] }
  | _ => none }
def angleRoundRow : OpenClaim := { program := "ytfoldiieclfbgaa", sum := "ea031af4f2a66b9b32f4a2e5b16aca3d883f67b3d029dfce7c5bc1b5be07668a", func := "filigree/filigreelaw21.AngleRound", spec := "angleRound", unfollowed := true, recurses := true, apart := false }
def AngleRoundSaid : Prop := angleRoundRow.holds Try.pinned (OpenSpec.ofChange angleRoundSpec)

/-- ITS FALSE NEIGHBOUR: 'it returns false'. Refute it at one input. -/
def angleRoundWrong : ChangeSpec := { name := "angleRound", fn := fun _ => fun
  | [d1, d2, d3, d4] => { results := [.lit (.bool false)], args := [d1, d2, d3, d4] }
  | _ => none }
def AngleRoundWrongFalsely : Prop := angleRoundRow.holds Try.pinned (OpenSpec.ofChange angleRoundWrong)

/-- 'filigreelaw21.AngleNames': WHATEVER THE INPUT: true; the input reads as it did. -/
def angleNamesSpec : ChangeSpec := { name := "angleNames", fn := fun _ => fun
  | [] => { results := [.lit (.bool true)], args := [] }
  | _ => none }
def angleNamesRow : OpenClaim := { program := "ytfoldiieclfbgaa", sum := "ea031af4f2a66b9b32f4a2e5b16aca3d883f67b3d029dfce7c5bc1b5be07668a", func := "filigree/filigreelaw21.AngleNames", spec := "angleNames", unfollowed := true, recurses := true, apart := false }
def AngleNamesSaid : Prop := angleNamesRow.holds Try.pinned (OpenSpec.ofChange angleNamesSpec)

/-- ITS FALSE NEIGHBOUR: 'it returns false'. Refute it at one input. -/
def angleNamesWrong : ChangeSpec := { name := "angleNames", fn := fun _ => fun
  | [] => { results := [.lit (.bool false)], args := [] }
  | _ => none }
def AngleNamesWrongFalsely : Prop := angleNamesRow.holds Try.pinned (OpenSpec.ofChange angleNamesWrong)

/- THE SECOND FORM. 'bulk': how many values and letters a reading holds, each counted each time it is reached (what is shared counts as often as it is met; a slice's spare places count too). A statement '..UptoSaid' is the law's where the arguments, and the package variables that the reading takes, are together of bulk at most 1048576: NARROWER than '..Said'. Prove '..Said' where nothing that the law and all that it calls make is longer than what came in: it says more and counts as full. Else prove '..UptoSaid'. A law counts once. -/
mutual
def uptoBulk {H : Type} : DataW H → Nat
  | .lit (.string bytes) => bytes.length + 1
  | .lit _ => 1
  | .nil => 1
  | .ptr d => uptoBulk d + 1
  | .slice elems spare => uptoBulkAll elems + uptoBulkAll spare + 1
  | .agg parts => uptoBulkAll parts + 1
  | .iface _ d => uptoBulk d + 1
  | .map entries => uptoBulkEntries entries + 1
  | .held _ => 1
def uptoBulkAll {H : Type} : List (DataW H) → Nat
  | [] => 0
  | d :: r => uptoBulk d + uptoBulkAll r
def uptoBulkEntries {H : Type} : List (Lit × DataW H) → Nat
  | [] => 0
  | x :: r => uptoBulkEntry x + uptoBulkEntries r
def uptoBulkEntry {H : Type} : Lit × DataW H → Nat
  | (.string bytes, d) => bytes.length + uptoBulk d + 1
  | (_, d) => uptoBulk d + 1
 end
def uptoSmall : (H : Type) → List (DataW H) → Bool := fun _ ds => decide (uptoBulkAll ds ≤ 1048576)
def OpenSpec.upto (s : _root_.Go.ChangeSpec) : _root_.Go.OpenSpec := { _root_.Go.OpenSpec.ofChange s with cond := some uptoSmall }

/-- 'filigreelaw21.AngleMakes', WHERE WHAT IT READS IS OF BULK AT MOST 1048576: true; the input reads as it did. -/
def angleMakesUptoRow : OpenClaim := { program := "ytfoldiieclfbgaa", sum := "ea031af4f2a66b9b32f4a2e5b16aca3d883f67b3d029dfce7c5bc1b5be07668a", func := "filigree/filigreelaw21.AngleMakes", spec := "angleMakes", unfollowed := true, recurses := true, apart := false, narrowed := true }
def AngleMakesUptoSaid : Prop := angleMakesUptoRow.holds Try.pinned (OpenSpec.upto angleMakesSpec)

/-- 'filigreelaw21.AngleTurns', WHERE WHAT IT READS IS OF BULK AT MOST 1048576: true; the input reads as it did. -/
def angleTurnsUptoRow : OpenClaim := { program := "ytfoldiieclfbgaa", sum := "ea031af4f2a66b9b32f4a2e5b16aca3d883f67b3d029dfce7c5bc1b5be07668a", func := "filigree/filigreelaw21.AngleTurns", spec := "angleTurns", unfollowed := true, recurses := true, apart := false, narrowed := true }
def AngleTurnsUptoSaid : Prop := angleTurnsUptoRow.holds Try.pinned (OpenSpec.upto angleTurnsSpec)

/-- 'filigreelaw21.AngleOrbits', WHERE WHAT IT READS IS OF BULK AT MOST 1048576: true; the input reads as it did. -/
def angleOrbitsUptoRow : OpenClaim := { program := "ytfoldiieclfbgaa", sum := "ea031af4f2a66b9b32f4a2e5b16aca3d883f67b3d029dfce7c5bc1b5be07668a", func := "filigree/filigreelaw21.AngleOrbits", spec := "angleOrbits", unfollowed := true, recurses := true, apart := false, narrowed := true }
def AngleOrbitsUptoSaid : Prop := angleOrbitsUptoRow.holds Try.pinned (OpenSpec.upto angleOrbitsSpec)

/-- 'filigreelaw21.AngleAll', WHERE WHAT IT READS IS OF BULK AT MOST 1048576: true; the input reads as it did. -/
def angleAllUptoRow : OpenClaim := { program := "ytfoldiieclfbgaa", sum := "ea031af4f2a66b9b32f4a2e5b16aca3d883f67b3d029dfce7c5bc1b5be07668a", func := "filigree/filigreelaw21.AngleAll", spec := "angleAll", inPlace := ["math/bits.Add64", "math/bits.Sub64"], unfollowed := true, recurses := true, apart := false, narrowed := true }
def AngleAllUptoSaid : Prop := angleAllUptoRow.holds Try.pinned (OpenSpec.upto angleAllSpec)

/-- 'filigreelaw21.AngleBetween', WHERE WHAT IT READS IS OF BULK AT MOST 1048576: true; the input reads as it did. -/
def angleBetweenUptoRow : OpenClaim := { program := "ytfoldiieclfbgaa", sum := "ea031af4f2a66b9b32f4a2e5b16aca3d883f67b3d029dfce7c5bc1b5be07668a", func := "filigree/filigreelaw21.AngleBetween", spec := "angleBetween", unfollowed := true, recurses := true, apart := false, narrowed := true }
def AngleBetweenUptoSaid : Prop := angleBetweenUptoRow.holds Try.pinned (OpenSpec.upto angleBetweenSpec)

/-- 'filigreelaw21.AngleDen', WHERE WHAT IT READS IS OF BULK AT MOST 1048576: true; the input reads as it did. -/
def angleDenUptoRow : OpenClaim := { program := "ytfoldiieclfbgaa", sum := "ea031af4f2a66b9b32f4a2e5b16aca3d883f67b3d029dfce7c5bc1b5be07668a", func := "filigree/filigreelaw21.AngleDen", spec := "angleDen", unfollowed := true, recurses := true, apart := false, narrowed := true }
def AngleDenUptoSaid : Prop := angleDenUptoRow.holds Try.pinned (OpenSpec.upto angleDenSpec)

/-- 'filigreelaw21.AngleBack', WHERE WHAT IT READS IS OF BULK AT MOST 1048576: true; the input reads as it did. -/
def angleBackUptoRow : OpenClaim := { program := "ytfoldiieclfbgaa", sum := "ea031af4f2a66b9b32f4a2e5b16aca3d883f67b3d029dfce7c5bc1b5be07668a", func := "filigree/filigreelaw21.AngleBack", spec := "angleBack", unfollowed := true, recurses := true, apart := false, narrowed := true }
def AngleBackUptoSaid : Prop := angleBackUptoRow.holds Try.pinned (OpenSpec.upto angleBackSpec)

/-- 'filigreelaw21.AngleCounts', WHERE WHAT IT READS IS OF BULK AT MOST 1048576: true; the input reads as it did. -/
def angleCountsUptoRow : OpenClaim := { program := "ytfoldiieclfbgaa", sum := "ea031af4f2a66b9b32f4a2e5b16aca3d883f67b3d029dfce7c5bc1b5be07668a", func := "filigree/filigreelaw21.AngleCounts", spec := "angleCounts", inPlace := ["math/bits.Add64", "math/bits.Sub64"], unfollowed := true, recurses := true, apart := false, narrowed := true }
def AngleCountsUptoSaid : Prop := angleCountsUptoRow.holds Try.pinned (OpenSpec.upto angleCountsSpec)

/-- 'filigreelaw21.AngleSpells', WHERE WHAT IT READS IS OF BULK AT MOST 1048576: true; the input reads as it did. -/
def angleSpellsUptoRow : OpenClaim := { program := "ytfoldiieclfbgaa", sum := "ea031af4f2a66b9b32f4a2e5b16aca3d883f67b3d029dfce7c5bc1b5be07668a", func := "filigree/filigreelaw21.AngleSpells", spec := "angleSpells", inPlace := ["math/bits.Add64", "math/bits.Sub64"], unfollowed := true, recurses := true, named := ["math/bits.divideError", "math/bits.overflowError"], apart := false, narrowed := true }
def AngleSpellsUptoSaid : Prop := angleSpellsUptoRow.holds Try.pinned (OpenSpec.upto angleSpellsSpec)

/-- 'filigreelaw21.AngleRound', WHERE WHAT IT READS IS OF BULK AT MOST 1048576: true; the input reads as it did. -/
def angleRoundUptoRow : OpenClaim := { program := "ytfoldiieclfbgaa", sum := "ea031af4f2a66b9b32f4a2e5b16aca3d883f67b3d029dfce7c5bc1b5be07668a", func := "filigree/filigreelaw21.AngleRound", spec := "angleRound", unfollowed := true, recurses := true, apart := false, narrowed := true }
def AngleRoundUptoSaid : Prop := angleRoundUptoRow.holds Try.pinned (OpenSpec.upto angleRoundSpec)

/-- 'filigreelaw21.AngleNames', WHERE WHAT IT READS IS OF BULK AT MOST 1048576: true; the input reads as it did. -/
def angleNamesUptoRow : OpenClaim := { program := "ytfoldiieclfbgaa", sum := "ea031af4f2a66b9b32f4a2e5b16aca3d883f67b3d029dfce7c5bc1b5be07668a", func := "filigree/filigreelaw21.AngleNames", spec := "angleNames", unfollowed := true, recurses := true, apart := false, narrowed := true }
def AngleNamesUptoSaid : Prop := angleNamesUptoRow.holds Try.pinned (OpenSpec.upto angleNamesSpec)

end Rows
end Go.Proofs.Ytfoldiieclfbgaa
