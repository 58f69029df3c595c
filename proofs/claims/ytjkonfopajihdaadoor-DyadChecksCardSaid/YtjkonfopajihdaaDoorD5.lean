/- Layer 3 (dyad): the document's Top of a number. -/
import Derived.Test.YtjkonfopajihdaaDoorD4
import Derived.BigQuiet
set_option linter.unusedSimpArgs false
set_option linter.unusedVariables false
namespace Go.Proofs.YtjkonfopajihdaaDoor
open Go Go.RowKit Nt

theorem boxd {w w1 : World} {b : Obj} (hb : Below ((w.alloc b).drew).heap.size ((w.alloc b).drew) w1) : Below w.heap.size w w1 := (((Below.refl _ _).alloc (Nat.le_refl _) _).drew).trans (hb.mono (show w.heap.size ≤ (w.alloc b).heap.size by simp))
set_option maxRecDepth 100000 in
set_option maxHeartbeats 1000000 in
theorem rTop3_num (g : Bool) (n : Nat) (x : Int) (w : World) (hf : fits n) (ho : n ≠ 0) (h1 : -1048576 ≤ x) (h2 : x ≤ 1048576) :
    Calls Tryd.prog 20 #[.agg #[.bool g, .string (natS n), .int .i64 x]] w fun e w' => e = .returned (.tuple #[.int .i64 ((nd 2 n : Nat) - 1 + x), .bool true]) ∧ Below w.heap.size w w' := by
  have hE := natS_full ho
  have hE2 := natS_full2 ho
  have hb2 := bits_131072' hf
  have hL : nd 256 n ≤ 1000000000 := by unfold fits at hf; omega
  have HO := Lib.hid ho
  have hw1 : IntKind.i64.wrap ((nd 2 n : Int) - 1) = (nd 2 n : Int) - 1 := IntWalk.i64_in _ (by omega)
  have hw2 : IntKind.i64.wrap ((nd 2 n : Int) - 1 + x) = (nd 2 n : Int) - 1 + x := IntWalk.i64_in _ (by omega)
  have hw3 : wrap64 ((nd 2 n : Int) - 1) = (nd 2 n : Int) - 1 := IntWalk.wrap64_in _ (by omega)
  have hw4 : wrap64 ((nd 2 n : Int) - 1 + x) = (nd 2 n : Int) - 1 + x := IntWalk.wrap64_in _ (by omega)
  clear ho
  go_enter Tryd.func20, Tryd.ntmps20
  go_upto_region 3 with fail
  go_region_with (first
    | (go_at_call 61; refine (rOf3_c n _ hL).mono ?_; rintro e w1 ⟨v, rfl, hown, hb⟩; obtain ⟨hc, hfz⟩ := bcell hb; obtain ⟨A, c, rfl, hcl⟩ := hown.len; rw [dl_length] at hown ⊢)
    | (go_at_call 60; refine (rBits3_c n _ _ _ _ hL hown).mono ?_; rintro e w2 ⟨rfl, rfl⟩))
  all_goals
    go_wp2
    go_ret2
    first
      | exact ⟨rfl, boxd hb⟩
      | exact ⟨rfl, (boxd hb).drew⟩
      | exact ⟨rfl, box_below hb⟩
      | exact ⟨rfl, (box_below hb).drew⟩
end Go.Proofs.YtjkonfopajihdaaDoor
