/- Texts put together: P23 P24 P25 Post PP. -/
import Derived.Test.YtajcapliokblfaaGreatDoorQ6
import Derived.Test.YtajcapliokblfaaGreatDoorQ4
import Derived.Below
import Derived.ChangeSame
import Derived.Test.YtajcapliokblfaaGreatDoorRows
import Derived.Test.YtajcapliokblfaaGreatDoorQ3
import Derived.ProofKit
import Derived.Lib.SmallJoins
import Derived.OpenShut
import Derived.ShutString
set_option linter.unusedSimpArgs false
set_option linter.unusedVariables false
namespace Go.Proofs.YtajcapliokblfaaGreatDoor
open Go Go.RowKit Nt

theorem cmp_b (a b : Nat) : -1 ≤ cmpN a b ∧ cmpN a b ≤ 1 := by
  rcases Nat.lt_trichotomy a b with h | h | h
  · rw [cmpN_lt h]; decide
  · subst h; rw [cmpN_eq]; decide
  · rw [cmpN_gt h]; decide
set_option maxRecDepth 100000 in
set_option maxHeartbeats 2000000 in
theorem rCompare4_falsefalse (n d m e : Nat) (w : World) (h1 : nd 256 n ≤ 2400) (h2 : nd 256 d ≤ 2400) (h3 : nd 256 m ≤ 2400) (h4 : nd 256 e ≤ 2400) :
    Calls Tryz.prog 31 #[.agg #[.bool false, .string (natS n), .string (natS d)], .agg #[.bool false, .string (natS m), .string (natS e)]] w fun e' w' => e' = .returned (.int .i64 (cmpN (n * e) (m * d))) ∧ Below w.heap.size w w' := by
  obtain ⟨bl, hbl⟩ : ∃ bl : List C3, bl = [(.bool false, .string (natS n), .string (natS d)), (.bool false, .string (natS m), .string (natS e))] := ⟨_, rfl⟩
  have T0 := BL.start2 w (.bool false) (.string (natS n)) (.string (natS d)) (.bool false) (.string (natS m)) (.string (natS e)) 24 24
  rw [← hbl] at T0
  have L0 : ∀ U, BL w bl U → U.cell? ⟨w.heap.size, 0, none⟩ = some (.bool false) := fun U hU => (hU.box 0 (.bool false, .string (natS n), .string (natS d)) (by rw [hbl]; rfl)).2.1
  have L1 : ∀ U, BL w bl U → U.cell? ⟨w.heap.size, 1, none⟩ = some (.string (natS n)) := fun U hU => (hU.box 0 (.bool false, .string (natS n), .string (natS d)) (by rw [hbl]; rfl)).2.2.1
  have L2 : ∀ U, BL w bl U → U.cell? ⟨w.heap.size, 2, none⟩ = some (.string (natS d)) := fun U hU => (hU.box 0 (.bool false, .string (natS n), .string (natS d)) (by rw [hbl]; rfl)).2.2.2.1
  have L3 : ∀ U, BL w bl U → U.cell? ⟨w.heap.size + 1, 0, none⟩ = some (.bool false) := fun U hU => (hU.box 1 (.bool false, .string (natS m), .string (natS e)) (by rw [hbl]; rfl)).2.1
  have L4 : ∀ U, BL w bl U → U.cell? ⟨w.heap.size + 1, 1, none⟩ = some (.string (natS m)) := fun U hU => (hU.box 1 (.bool false, .string (natS m), .string (natS e)) (by rw [hbl]; rfl)).2.2.1
  have L5 : ∀ U, BL w bl U → U.cell? ⟨w.heap.size + 1, 2, none⟩ = some (.string (natS e)) := fun U hU => (hU.box 1 (.bool false, .string (natS m), .string (natS e)) (by rw [hbl]; rfl)).2.2.2.1
  have HBL := Lib.hid hbl
  clear hbl
  have KX := Lib.hid (fun w => rTimes4_c n e w h1 h4)
  have KY := Lib.hid (fun w => rTimes4_c m d w h3 h2)
  have KC := Lib.hid (fun w => rCmpB (n * e) (m * d) w (fits_nd (nd5 h1 h4) (by decide)) (fits_nd (nd5 h3 h2) (by decide)))
  obtain ⟨u1, u2⟩ := cmp_b (n * e) (m * d)
  have hw : IntKind.i64.wrap (-cmpN (n * e) (m * d)) = -cmpN (n * e) (m * d) := IntWalk.i64_in _ ⟨by omega, by omega⟩
  clear h1 h2 h3 h4 u1 u2
  generalize n * e = X at *
  generalize m * d = Y at *
  generalize cmpN X Y = cc at *
  go_enter Tryz.func31, Tryz.ntmps31
  go_wp2_with fail
  go_region_held3 (BL w bl) (first | assumption | exact BL.step (by assumption) (by assumption) | exact BL.drew (by assumption) | exact BL.drawn (by assumption) _)
    (first
      | (go_at_call 82; (with_reducible refine (KX.out _).mono ?_); rintro ee wa ⟨rfl, hb1⟩)
      | (go_at_call 82; (with_reducible refine (KY.out _).mono ?_); rintro ee wb ⟨rfl, hb2⟩)
      | (go_at_call 84; (with_reducible refine (KC.out _).mono ?_); rintro ee wc ⟨rfl, hb3⟩))
  rename_i hHeld
  have T1 := hHeld
  clear hHeld L0 L1 L2 L3 L4 L5 KX KY KC T0
  have T0 := T1
  have HF := Lib.hid T1.1
  clear T1
  obtain ⟨p0, p1, p2, p3, p4, p5, p6⟩ := T0.boxZ (.bool false, .string (natS n), .string (natS d)) (by rw [HBL.out]; rfl); obtain ⟨s0, s1, s2, s3, s4, s5, s6⟩ := T0.box 1 (.bool false, .string (natS m), .string (natS e)) (by rw [HBL.out]; rfl)
  go_wp2_with fail
  go_ret
  exact ⟨rfl, HF.out⟩
set_option maxRecDepth 100000 in
set_option maxHeartbeats 2000000 in
theorem rCompare4_falsetrue (n d m e : Nat) (w : World) (h1 : nd 256 n ≤ 2400) (h2 : nd 256 d ≤ 2400) (h3 : nd 256 m ≤ 2400) (h4 : nd 256 e ≤ 2400) :
    Calls Tryz.prog 31 #[.agg #[.bool false, .string (natS n), .string (natS d)], .agg #[.bool true, .string (natS m), .string (natS e)]] w fun e' w' => e' = .returned (.int .i64 (1)) ∧ Below w.heap.size w w' := by
  obtain ⟨bl, hbl⟩ : ∃ bl : List C3, bl = [(.bool false, .string (natS n), .string (natS d)), (.bool true, .string (natS m), .string (natS e))] := ⟨_, rfl⟩
  have T0 := BL.start2 w (.bool false) (.string (natS n)) (.string (natS d)) (.bool true) (.string (natS m)) (.string (natS e)) 24 24
  rw [← hbl] at T0
  have L0 : ∀ U, BL w bl U → U.cell? ⟨w.heap.size, 0, none⟩ = some (.bool false) := fun U hU => (hU.box 0 (.bool false, .string (natS n), .string (natS d)) (by rw [hbl]; rfl)).2.1
  have L1 : ∀ U, BL w bl U → U.cell? ⟨w.heap.size, 1, none⟩ = some (.string (natS n)) := fun U hU => (hU.box 0 (.bool false, .string (natS n), .string (natS d)) (by rw [hbl]; rfl)).2.2.1
  have L2 : ∀ U, BL w bl U → U.cell? ⟨w.heap.size, 2, none⟩ = some (.string (natS d)) := fun U hU => (hU.box 0 (.bool false, .string (natS n), .string (natS d)) (by rw [hbl]; rfl)).2.2.2.1
  have L3 : ∀ U, BL w bl U → U.cell? ⟨w.heap.size + 1, 0, none⟩ = some (.bool true) := fun U hU => (hU.box 1 (.bool true, .string (natS m), .string (natS e)) (by rw [hbl]; rfl)).2.1
  have L4 : ∀ U, BL w bl U → U.cell? ⟨w.heap.size + 1, 1, none⟩ = some (.string (natS m)) := fun U hU => (hU.box 1 (.bool true, .string (natS m), .string (natS e)) (by rw [hbl]; rfl)).2.2.1
  have L5 : ∀ U, BL w bl U → U.cell? ⟨w.heap.size + 1, 2, none⟩ = some (.string (natS e)) := fun U hU => (hU.box 1 (.bool true, .string (natS m), .string (natS e)) (by rw [hbl]; rfl)).2.2.2.1
  have HBL := Lib.hid hbl
  clear hbl
  clear h1 h2 h3 h4 L0 L1 L2 L3 L4 L5
  go_enter Tryz.func31, Tryz.ntmps31
  go_wp2_with fail
  go_ret
  exact ⟨rfl, T0.1⟩
set_option maxRecDepth 100000 in
set_option maxHeartbeats 2000000 in
theorem rCompare4_truefalse (n d m e : Nat) (w : World) (h1 : nd 256 n ≤ 2400) (h2 : nd 256 d ≤ 2400) (h3 : nd 256 m ≤ 2400) (h4 : nd 256 e ≤ 2400) :
    Calls Tryz.prog 31 #[.agg #[.bool true, .string (natS n), .string (natS d)], .agg #[.bool false, .string (natS m), .string (natS e)]] w fun e' w' => e' = .returned (.int .i64 (-1)) ∧ Below w.heap.size w w' := by
  obtain ⟨bl, hbl⟩ : ∃ bl : List C3, bl = [(.bool true, .string (natS n), .string (natS d)), (.bool false, .string (natS m), .string (natS e))] := ⟨_, rfl⟩
  have T0 := BL.start2 w (.bool true) (.string (natS n)) (.string (natS d)) (.bool false) (.string (natS m)) (.string (natS e)) 24 24
  rw [← hbl] at T0
  have L0 : ∀ U, BL w bl U → U.cell? ⟨w.heap.size, 0, none⟩ = some (.bool true) := fun U hU => (hU.box 0 (.bool true, .string (natS n), .string (natS d)) (by rw [hbl]; rfl)).2.1
  have L1 : ∀ U, BL w bl U → U.cell? ⟨w.heap.size, 1, none⟩ = some (.string (natS n)) := fun U hU => (hU.box 0 (.bool true, .string (natS n), .string (natS d)) (by rw [hbl]; rfl)).2.2.1
  have L2 : ∀ U, BL w bl U → U.cell? ⟨w.heap.size, 2, none⟩ = some (.string (natS d)) := fun U hU => (hU.box 0 (.bool true, .string (natS n), .string (natS d)) (by rw [hbl]; rfl)).2.2.2.1
  have L3 : ∀ U, BL w bl U → U.cell? ⟨w.heap.size + 1, 0, none⟩ = some (.bool false) := fun U hU => (hU.box 1 (.bool false, .string (natS m), .string (natS e)) (by rw [hbl]; rfl)).2.1
  have L4 : ∀ U, BL w bl U → U.cell? ⟨w.heap.size + 1, 1, none⟩ = some (.string (natS m)) := fun U hU => (hU.box 1 (.bool false, .string (natS m), .string (natS e)) (by rw [hbl]; rfl)).2.2.1
  have L5 : ∀ U, BL w bl U → U.cell? ⟨w.heap.size + 1, 2, none⟩ = some (.string (natS e)) := fun U hU => (hU.box 1 (.bool false, .string (natS m), .string (natS e)) (by rw [hbl]; rfl)).2.2.2.1
  have HBL := Lib.hid hbl
  clear hbl
  clear h1 h2 h3 h4 L0 L1 L2 L3 L4 L5
  go_enter Tryz.func31, Tryz.ntmps31
  go_wp2_with fail
  go_ret
  exact ⟨rfl, T0.1⟩
set_option maxRecDepth 100000 in
set_option maxHeartbeats 2000000 in
theorem rCompare4_truetrue (n d m e : Nat) (w : World) (h1 : nd 256 n ≤ 2400) (h2 : nd 256 d ≤ 2400) (h3 : nd 256 m ≤ 2400) (h4 : nd 256 e ≤ 2400) :
    Calls Tryz.prog 31 #[.agg #[.bool true, .string (natS n), .string (natS d)], .agg #[.bool true, .string (natS m), .string (natS e)]] w fun e' w' => e' = .returned (.int .i64 (-cmpN (n * e) (m * d))) ∧ Below w.heap.size w w' := by
  obtain ⟨bl, hbl⟩ : ∃ bl : List C3, bl = [(.bool true, .string (natS n), .string (natS d)), (.bool true, .string (natS m), .string (natS e))] := ⟨_, rfl⟩
  have T0 := BL.start2 w (.bool true) (.string (natS n)) (.string (natS d)) (.bool true) (.string (natS m)) (.string (natS e)) 24 24
  rw [← hbl] at T0
  have L0 : ∀ U, BL w bl U → U.cell? ⟨w.heap.size, 0, none⟩ = some (.bool true) := fun U hU => (hU.box 0 (.bool true, .string (natS n), .string (natS d)) (by rw [hbl]; rfl)).2.1
  have L1 : ∀ U, BL w bl U → U.cell? ⟨w.heap.size, 1, none⟩ = some (.string (natS n)) := fun U hU => (hU.box 0 (.bool true, .string (natS n), .string (natS d)) (by rw [hbl]; rfl)).2.2.1
  have L2 : ∀ U, BL w bl U → U.cell? ⟨w.heap.size, 2, none⟩ = some (.string (natS d)) := fun U hU => (hU.box 0 (.bool true, .string (natS n), .string (natS d)) (by rw [hbl]; rfl)).2.2.2.1
  have L3 : ∀ U, BL w bl U → U.cell? ⟨w.heap.size + 1, 0, none⟩ = some (.bool true) := fun U hU => (hU.box 1 (.bool true, .string (natS m), .string (natS e)) (by rw [hbl]; rfl)).2.1
  have L4 : ∀ U, BL w bl U → U.cell? ⟨w.heap.size + 1, 1, none⟩ = some (.string (natS m)) := fun U hU => (hU.box 1 (.bool true, .string (natS m), .string (natS e)) (by rw [hbl]; rfl)).2.2.1
  have L5 : ∀ U, BL w bl U → U.cell? ⟨w.heap.size + 1, 2, none⟩ = some (.string (natS e)) := fun U hU => (hU.box 1 (.bool true, .string (natS m), .string (natS e)) (by rw [hbl]; rfl)).2.2.2.1
  have HBL := Lib.hid hbl
  clear hbl
  have KX := Lib.hid (fun w => rTimes4_c n e w h1 h4)
  have KY := Lib.hid (fun w => rTimes4_c m d w h3 h2)
  have KC := Lib.hid (fun w => rCmpB (n * e) (m * d) w (fits_nd (nd5 h1 h4) (by decide)) (fits_nd (nd5 h3 h2) (by decide)))
  obtain ⟨u1, u2⟩ := cmp_b (n * e) (m * d)
  have hw : IntKind.i64.wrap (-cmpN (n * e) (m * d)) = -cmpN (n * e) (m * d) := IntWalk.i64_in _ ⟨by omega, by omega⟩
  clear h1 h2 h3 h4 u1 u2
  generalize n * e = X at *
  generalize m * d = Y at *
  generalize cmpN X Y = cc at *
  go_enter Tryz.func31, Tryz.ntmps31
  go_wp2_with fail
  go_region_held3 (BL w bl) (first | assumption | exact BL.step (by assumption) (by assumption) | exact BL.drew (by assumption) | exact BL.drawn (by assumption) _)
    (first
      | (go_at_call 82; (with_reducible refine (KX.out _).mono ?_); rintro ee wa ⟨rfl, hb1⟩)
      | (go_at_call 82; (with_reducible refine (KY.out _).mono ?_); rintro ee wb ⟨rfl, hb2⟩)
      | (go_at_call 84; (with_reducible refine (KC.out _).mono ?_); rintro ee wc ⟨rfl, hb3⟩))
  rename_i hHeld
  have T1 := hHeld
  clear hHeld L0 L1 L2 L3 L4 L5 KX KY KC T0
  have T0 := T1
  have HF := Lib.hid T1.1
  clear T1
  obtain ⟨p0, p1, p2, p3, p4, p5, p6⟩ := T0.boxZ (.bool true, .string (natS n), .string (natS d)) (by rw [HBL.out]; rfl); obtain ⟨s0, s1, s2, s3, s4, s5, s6⟩ := T0.box 1 (.bool true, .string (natS m), .string (natS e)) (by rw [HBL.out]; rfl)
  go_wp2_with fail
  go_ret
  exact ⟨rfl, HF.out⟩
theorem rCompare4_c (x y : Rat) (w : World) (hx : Bq x 2400) (hy : Bq y 2400) :
    Calls Tryz.prog 31 #[qv x, qv y] w fun e w' => e = .returned (.int .i64 (qC x y)) ∧ Below w.heap.size w w' := by
  have hD := fun h => qC_diff (x := x) (y := y) h
  have hS := fun h => qC_same (x := x) (y := y) h
  unfold qv
  cases hx' : qG x <;> cases hy' : qG y <;> rw [hx', hy'] at hD hS
  · rw [hS rfl]; exact rCompare4_falsefalse _ _ _ _ w hx.1 hx.2 hy.1 hy.2
  · rw [hD (by decide)]; exact rCompare4_falsetrue _ _ _ _ w hx.1 hx.2 hy.1 hy.2
  · rw [hD (by decide)]; exact rCompare4_truefalse _ _ _ _ w hx.1 hx.2 hy.1 hy.2
  · rw [hS rfl]; exact rCompare4_truetrue _ _ _ _ w hx.1 hx.2 hy.1 hy.2
end Go.Proofs.YtajcapliokblfaaGreatDoor
set_option linter.unusedSimpArgs false
set_option linter.unusedVariables false
namespace Go.Proofs.YtajcapliokblfaaGreatDoor
open Go Go.RowKit Nt

set_option maxRecDepth 100000 in
theorem rNeg4_false0 (n d : Nat) (w : World) (hn : n = 0) : Calls Tryz.prog 28 #[.agg #[.bool false, .string (natS n), .string (natS d)]] w fun e w' => e = .returned (.agg #[.bool false, .string (natS n), .string (natS d)]) ∧ Below w.heap.size w w' := by
  have d1 := natS_empty hn
  clear hn
  obtain ⟨bl, hbl⟩ : ∃ bl : List C3, bl = [(.bool false, .string (natS n), .string (natS d))] := ⟨_, rfl⟩
  have hbn : bl.length = 1 := by rw [hbl]; rfl
  have T0 := BR.start1 w (.bool false) (.string (natS n)) (.string (natS d)) false (.string ⟨#[]⟩) (.string ⟨#[]⟩) 24 24
  rw [← hbl] at T0
  have L0 : ∀ U, BR w bl U → U.cell? ⟨w.heap.size, 0, none⟩ = some (.bool false) := fun U hU => (hU.box 0 (.bool false, .string (natS n), .string (natS d)) (by rw [hbl]; rfl)).2.1
  have L1 : ∀ U, BR w bl U → U.cell? ⟨w.heap.size, 1, none⟩ = some (.string (natS n)) := fun U hU => (hU.box 0 (.bool false, .string (natS n), .string (natS d)) (by rw [hbl]; rfl)).2.2.1
  have L2 : ∀ U, BR w bl U → U.cell? ⟨w.heap.size, 2, none⟩ = some (.string (natS d)) := fun U hU => (hU.box 0 (.bool false, .string (natS n), .string (natS d)) (by rw [hbl]; rfl)).2.2.2.1
  have M1 := fun U (hU : BR w bl U) => (hU.res (n := 1) hbn).2.1
  have M2 := fun U (hU : BR w bl U) => (hU.res (n := 1) hbn).2.2.1
  have M3 := fun U (hU : BR w bl U) => (hU.res (n := 1) hbn).2.2.2.1
  have M4 := fun U (hU : BR w bl U) => (hU.res (n := 1) hbn).2.2.2.2.1
  have M5 := fun U (hU : BR w bl U) => (hU.res (n := 1) hbn).2.2.2.2.2.1
  have M6 := fun U (hU : BR w bl U) => (hU.res (n := 1) hbn).2.2.2.2.2.2
  have HBL := Lib.hid hbl
  clear hbl L0 L1 L2 M1 M2 M3 M4 M5 M6
  go_enter Tryz.func28, Tryz.ntmps28
  go_wp2_with fail
  refine bodyPost_ret (v := .agg #[.bool false, .string (natS n), .string (natS d)]) (by simp [results, Tryz.results28, go_sem]) rfl ⟨rfl, ?_⟩
  repeat (refine Below.setCell ?_ (by simp) _)
  first | exact T0.1 | exact ((Below.refl _ _).alloc (Nat.le_refl _) _).alloc (by simp) _
set_option maxRecDepth 100000 in
theorem rNeg4_false1 (n d : Nat) (w : World) (hn : n ≠ 0) : Calls Tryz.prog 28 #[.agg #[.bool false, .string (natS n), .string (natS d)]] w fun e w' => e = .returned (.agg #[.bool true, .string (natS n), .string (natS d)]) ∧ Below w.heap.size w w' := by
  have d1 := natS_full hn
  have d2 := natS_full2 hn
  clear hn
  obtain ⟨bl, hbl⟩ : ∃ bl : List C3, bl = [(.bool false, .string (natS n), .string (natS d))] := ⟨_, rfl⟩
  have hbn : bl.length = 1 := by rw [hbl]; rfl
  have T0 := BR.start1 w (.bool false) (.string (natS n)) (.string (natS d)) false (.string ⟨#[]⟩) (.string ⟨#[]⟩) 24 24
  rw [← hbl] at T0
  have L0 : ∀ U, BR w bl U → U.cell? ⟨w.heap.size, 0, none⟩ = some (.bool false) := fun U hU => (hU.box 0 (.bool false, .string (natS n), .string (natS d)) (by rw [hbl]; rfl)).2.1
  have L1 : ∀ U, BR w bl U → U.cell? ⟨w.heap.size, 1, none⟩ = some (.string (natS n)) := fun U hU => (hU.box 0 (.bool false, .string (natS n), .string (natS d)) (by rw [hbl]; rfl)).2.2.1
  have L2 : ∀ U, BR w bl U → U.cell? ⟨w.heap.size, 2, none⟩ = some (.string (natS d)) := fun U hU => (hU.box 0 (.bool false, .string (natS n), .string (natS d)) (by rw [hbl]; rfl)).2.2.2.1
  have M1 := fun U (hU : BR w bl U) => (hU.res (n := 1) hbn).2.1
  have M2 := fun U (hU : BR w bl U) => (hU.res (n := 1) hbn).2.2.1
  have M3 := fun U (hU : BR w bl U) => (hU.res (n := 1) hbn).2.2.2.1
  have M4 := fun U (hU : BR w bl U) => (hU.res (n := 1) hbn).2.2.2.2.1
  have M5 := fun U (hU : BR w bl U) => (hU.res (n := 1) hbn).2.2.2.2.2.1
  have M6 := fun U (hU : BR w bl U) => (hU.res (n := 1) hbn).2.2.2.2.2.2
  have HBL := Lib.hid hbl
  clear hbl L0 L1 L2 M1 M2 M3 M4 M5 M6
  go_enter Tryz.func28, Tryz.ntmps28
  go_wp2_with fail
  refine bodyPost_ret (v := .agg #[.bool true, .string (natS n), .string (natS d)]) (by simp [results, Tryz.results28, go_sem]) rfl ⟨rfl, ?_⟩
  repeat (refine Below.setCell ?_ (by simp) _)
  first | exact T0.1 | exact ((Below.refl _ _).alloc (Nat.le_refl _) _).alloc (by simp) _
set_option maxRecDepth 100000 in
theorem rNeg4_true0 (n d : Nat) (w : World) (hn : n = 0) : Calls Tryz.prog 28 #[.agg #[.bool true, .string (natS n), .string (natS d)]] w fun e w' => e = .returned (.agg #[.bool true, .string (natS n), .string (natS d)]) ∧ Below w.heap.size w w' := by
  have d1 := natS_empty hn
  clear hn
  obtain ⟨bl, hbl⟩ : ∃ bl : List C3, bl = [(.bool true, .string (natS n), .string (natS d))] := ⟨_, rfl⟩
  have hbn : bl.length = 1 := by rw [hbl]; rfl
  have T0 := BR.start1 w (.bool true) (.string (natS n)) (.string (natS d)) false (.string ⟨#[]⟩) (.string ⟨#[]⟩) 24 24
  rw [← hbl] at T0
  have L0 : ∀ U, BR w bl U → U.cell? ⟨w.heap.size, 0, none⟩ = some (.bool true) := fun U hU => (hU.box 0 (.bool true, .string (natS n), .string (natS d)) (by rw [hbl]; rfl)).2.1
  have L1 : ∀ U, BR w bl U → U.cell? ⟨w.heap.size, 1, none⟩ = some (.string (natS n)) := fun U hU => (hU.box 0 (.bool true, .string (natS n), .string (natS d)) (by rw [hbl]; rfl)).2.2.1
  have L2 : ∀ U, BR w bl U → U.cell? ⟨w.heap.size, 2, none⟩ = some (.string (natS d)) := fun U hU => (hU.box 0 (.bool true, .string (natS n), .string (natS d)) (by rw [hbl]; rfl)).2.2.2.1
  have M1 := fun U (hU : BR w bl U) => (hU.res (n := 1) hbn).2.1
  have M2 := fun U (hU : BR w bl U) => (hU.res (n := 1) hbn).2.2.1
  have M3 := fun U (hU : BR w bl U) => (hU.res (n := 1) hbn).2.2.2.1
  have M4 := fun U (hU : BR w bl U) => (hU.res (n := 1) hbn).2.2.2.2.1
  have M5 := fun U (hU : BR w bl U) => (hU.res (n := 1) hbn).2.2.2.2.2.1
  have M6 := fun U (hU : BR w bl U) => (hU.res (n := 1) hbn).2.2.2.2.2.2
  have HBL := Lib.hid hbl
  clear hbl L0 L1 L2 M1 M2 M3 M4 M5 M6
  go_enter Tryz.func28, Tryz.ntmps28
  go_wp2_with fail
  refine bodyPost_ret (v := .agg #[.bool true, .string (natS n), .string (natS d)]) (by simp [results, Tryz.results28, go_sem]) rfl ⟨rfl, ?_⟩
  repeat (refine Below.setCell ?_ (by simp) _)
  first | exact T0.1 | exact ((Below.refl _ _).alloc (Nat.le_refl _) _).alloc (by simp) _
set_option maxRecDepth 100000 in
theorem rNeg4_true1 (n d : Nat) (w : World) (hn : n ≠ 0) : Calls Tryz.prog 28 #[.agg #[.bool true, .string (natS n), .string (natS d)]] w fun e w' => e = .returned (.agg #[.bool false, .string (natS n), .string (natS d)]) ∧ Below w.heap.size w w' := by
  have d1 := natS_full hn
  have d2 := natS_full2 hn
  clear hn
  obtain ⟨bl, hbl⟩ : ∃ bl : List C3, bl = [(.bool true, .string (natS n), .string (natS d))] := ⟨_, rfl⟩
  have hbn : bl.length = 1 := by rw [hbl]; rfl
  have T0 := BR.start1 w (.bool true) (.string (natS n)) (.string (natS d)) false (.string ⟨#[]⟩) (.string ⟨#[]⟩) 24 24
  rw [← hbl] at T0
  have L0 : ∀ U, BR w bl U → U.cell? ⟨w.heap.size, 0, none⟩ = some (.bool true) := fun U hU => (hU.box 0 (.bool true, .string (natS n), .string (natS d)) (by rw [hbl]; rfl)).2.1
  have L1 : ∀ U, BR w bl U → U.cell? ⟨w.heap.size, 1, none⟩ = some (.string (natS n)) := fun U hU => (hU.box 0 (.bool true, .string (natS n), .string (natS d)) (by rw [hbl]; rfl)).2.2.1
  have L2 : ∀ U, BR w bl U → U.cell? ⟨w.heap.size, 2, none⟩ = some (.string (natS d)) := fun U hU => (hU.box 0 (.bool true, .string (natS n), .string (natS d)) (by rw [hbl]; rfl)).2.2.2.1
  have M1 := fun U (hU : BR w bl U) => (hU.res (n := 1) hbn).2.1
  have M2 := fun U (hU : BR w bl U) => (hU.res (n := 1) hbn).2.2.1
  have M3 := fun U (hU : BR w bl U) => (hU.res (n := 1) hbn).2.2.2.1
  have M4 := fun U (hU : BR w bl U) => (hU.res (n := 1) hbn).2.2.2.2.1
  have M5 := fun U (hU : BR w bl U) => (hU.res (n := 1) hbn).2.2.2.2.2.1
  have M6 := fun U (hU : BR w bl U) => (hU.res (n := 1) hbn).2.2.2.2.2.2
  have HBL := Lib.hid hbl
  clear hbl L0 L1 L2 M1 M2 M3 M4 M5 M6
  go_enter Tryz.func28, Tryz.ntmps28
  go_wp2_with fail
  refine bodyPost_ret (v := .agg #[.bool false, .string (natS n), .string (natS d)]) (by simp [results, Tryz.results28, go_sem]) rfl ⟨rfl, ?_⟩
  repeat (refine Below.setCell ?_ (by simp) _)
  first | exact T0.1 | exact ((Below.refl _ _).alloc (Nat.le_refl _) _).alloc (by simp) _
theorem rNeg4_c (x : Rat) (w : World) : Calls Tryz.prog 28 #[qv x] w fun e w' => e = .returned (qv (-x)) ∧ Below w.heap.size w w' := by
  obtain ⟨n1, n2, n3⟩ := q_neg x
  unfold qv
  rw [n1, n2, n3]
  by_cases h : qN x = 0
  · rw [decide_eq_false (fun c => c h), Bool.and_false, qG_of_zero h]
    exact rNeg4_false0 _ _ w h
  · rw [decide_eq_true h, Bool.and_true]
    cases qG x
    · exact rNeg4_false1 _ _ w h
    · exact rNeg4_true1 _ _ w h
theorem rAddQ (x y z : Rat) (e : x + y = z) (w : World) (hx : Bq x 2400) (hy : Bq y 2400) : Calls Tryz.prog 29 #[qv x, qv y] w fun e w' => e = .returned (qv z) ∧ Below w.heap.size w w' := by
  have h := rAdd4_c (qG x) (qG y) (qN x) (qD x) (qN y) (qD y) w (qD_pos x) (qD_pos y) hx.1 hx.2 hy.1 hy.2
  rwa [fr_add, e] at h
theorem rMulQ (x y : Rat) (w : World) (hx : Bq x 2400) (hy : Bq y 2400) : Calls Tryz.prog 30 #[qv x, qv y] w fun e w' => e = .returned (qv (x * y)) ∧ Below w.heap.size w w' := by
  have h := rMul4_c (qG x) (qG y) (qN x) (qD x) (qN y) (qD y) w (qD_pos x) (qD_pos y) hx.1 hx.2 hy.1 hy.2
  rwa [fr_mul] at h
theorem rQuoQ (x y : Rat) (w : World) (hx : Bq x 2400) (hy : Bq y 2400) (h0 : qN y ≠ 0) : Calls Tryz.prog 32 #[qv x, qv y] w fun e w' => e = .returned (qv (x / y)) ∧ Below w.heap.size w w' := by
  have h := rQuo4_c (qG x) (qG y) (qN x) (qD x) (qN y) (qD y) w (qD_pos x) (qD_pos y) hx.1 hx.2 hy.1 hy.2 h0
  rwa [fr_quo x y h0] at h
theorem rMay4_any (r : Rx) (w : World) (hz : r.s.size ≤ 5000 ∧ r.t.size ≤ 5000) : Calls Tryz.prog 19 #[.agg #[.bool r.g, .string r.s, .string r.t]] w fun e w' => e = .returned (.bool (mayR r)) ∧ Below w.heap.size w w' := by
  rcases r.cases_ with ⟨q, hq⟩ | hn
  · rw [mayR_iff.2 ⟨q, hq⟩]
    obtain ⟨h1, rfl⟩ := hq
    have z1 := hz.1
    have z2 := hz.2
    rw [natS_size] at z1 z2
    exact rMay4_yes q w h1 ⟨z1, z2⟩
  · have e : mayR r = false := Bool.eq_false_iff.2 (fun c => by obtain ⟨q, hq⟩ := mayR_iff.1 c; exact hn q hq)
    rw [e]; exact rMay4_no r w hn hz
end Go.Proofs.YtajcapliokblfaaGreatDoor
set_option linter.unusedVariables false
set_option linter.unusedSimpArgs false
namespace Go.Proofs.YtajcapliokblfaaGreatDoor
open Go Go.RowKit Nt

@[reducible] def nulV : Value := .agg #[.bool false, .string ⟨#[]⟩, .string ⟨#[]⟩]
theorem PQuo_any (x y : Rx) (w : World) (h : x.No ∨ y.No) : Calls Tryz.prog 25 #[.agg #[.bool x.g, .string x.s, .string x.t], .agg #[.bool y.g, .string y.s, .string y.t]] w fun e w' => e = .returned (.tuple #[.agg #[.bool false, .string ⟨#[]⟩, .string ⟨#[]⟩], .int .i64 2]) ∧ Below w.heap.size w w' := by
  by_cases c : y.s.size = 0
  · exact PQuo_nul x y w (ba_nil c)
  · exact PQuo_no x y w h (dFull (by omega)) (dFull2 (by omega))
theorem PQuo_z (x : Rat) (y : Rat) (w : World) (h : qN y = 0) : Calls Tryz.prog 25 #[qv x, qv y] w fun e w' => e = .returned (.tuple #[.agg #[.bool false, .string ⟨#[]⟩, .string ⟨#[]⟩], .int .i64 2]) ∧ Below w.heap.size w w' :=
  PQuo_nul (qr x) (qr y) w (by show natS (qN y) = _; rw [h, natS_zero])
theorem smB_no {r : Rx} (h : smB r = false) : ¬ (smB r = true) := by rw [h]; exact Bool.false_ne_true
theorem isq {x : Rat} (h : qfits x) : (qr x).Is x := ⟨h, rfl⟩

@[reducible] def RatioSums_na_f : FuncId := 4
@[reducible] def RatioSums_na_a : List AV := [.agg [.sym 0, .sym 1, .sym 2], .agg [.sym 3, .sym 4, .sym 5]]
@[reducible] noncomputable def RatioSums_na_k : Know := ⟨[],
  [(9, [.agg [.sym 0, .sym 1, .sym 2]], .lit (.bool false)),
  (11, [], .lit (.bool true))]⟩
theorem RatioSums_na_r1 : @comes RatioSums_na_k Tryz.prog glT 3000 RatioSums_na_f RatioSums_na_a = some (.lit (.bool true)) := by kernel_rfl

set_option maxRecDepth 100000 in
set_option maxHeartbeats 4000000 in
theorem RatioSums_na (a b : Rx) (w : World) (hG : Globs glT w) (hsa : ∀ w, Calls Tryz.prog 9 #[.agg #[.bool a.g, .string a.s, .string a.t]] w fun e w' => e = .returned (.bool false) ∧ Below w.heap.size w w') : Calls Tryz.prog 4 #[.agg #[.bool a.g, .string a.s, .string a.t], .agg #[.bool b.g, .string b.s, .string b.t]] w fun e w' => e = .returned (.bool true) ∧ Below w.heap.size w w' := by
  letI : Env := mkEnv glT [.bool a.g, .string a.s, .string a.t, .bool b.g, .string b.s, .string b.t] rfl
  have hops : OpsT Tryz.prog (@Know.ops RatioSums_na_k) := trivial
  have hcalls : CallsT Tryz.prog (@Know.calls RatioSums_na_k) := ⟨callt rfl rfl fun w hG => hsa w,
    callt rfl rfl fun w hG => lives4_c w hG,
    trivial⟩
  have fin : ∀ v, @comes RatioSums_na_k Tryz.prog glT 3000 RatioSums_na_f RatioSums_na_a = some v → ground v = true → Ending.returned (gval v) = .returned (.bool true) → Calls Tryz.prog 4 #[.agg #[.bool a.g, .string a.s, .string a.t], .agg #[.bool b.g, .string b.s, .string b.t]] w fun e w' => e = .returned (.bool true) ∧ Below w.heap.size w w' := fun v h1 h2 h3 => (@sym_ok _ RatioSums_na_k _ (@KnowOk.of _ RatioSums_na_k _ hops hcalls) (by kernel_rfl) _ _ _ _ h1 rfl h2 _ hG).mono fun e w' h => ⟨h.1.trans h3, h.2⟩
  clear hops hcalls
  exact fin _ (RatioSums_na_r1) rfl rfl

@[reducible] def RatioSums_nb_f : FuncId := 4
@[reducible] def RatioSums_nb_a : List AV := [.agg [.sym 0, .sym 1, .sym 2], .agg [.sym 3, .sym 4, .sym 5]]
@[reducible] noncomputable def RatioSums_nb_k : Know := ⟨[],
  [(9, [.agg [.sym 0, .sym 1, .sym 2]], .lit (.bool true)),
  (9, [.agg [.sym 3, .sym 4, .sym 5]], .lit (.bool false)),
  (11, [], .lit (.bool true))]⟩
theorem RatioSums_nb_r1 : @comes RatioSums_nb_k Tryz.prog glT 3000 RatioSums_nb_f RatioSums_nb_a = some (.lit (.bool true)) := by kernel_rfl

set_option maxRecDepth 100000 in
set_option maxHeartbeats 4000000 in
theorem RatioSums_nb (a b : Rx) (w : World) (hG : Globs glT w) (hsa : ∀ w, Calls Tryz.prog 9 #[.agg #[.bool a.g, .string a.s, .string a.t]] w fun e w' => e = .returned (.bool true) ∧ Below w.heap.size w w') (hsb : ∀ w, Calls Tryz.prog 9 #[.agg #[.bool b.g, .string b.s, .string b.t]] w fun e w' => e = .returned (.bool false) ∧ Below w.heap.size w w') : Calls Tryz.prog 4 #[.agg #[.bool a.g, .string a.s, .string a.t], .agg #[.bool b.g, .string b.s, .string b.t]] w fun e w' => e = .returned (.bool true) ∧ Below w.heap.size w w' := by
  letI : Env := mkEnv glT [.bool a.g, .string a.s, .string a.t, .bool b.g, .string b.s, .string b.t] rfl
  have hops : OpsT Tryz.prog (@Know.ops RatioSums_nb_k) := trivial
  have hcalls : CallsT Tryz.prog (@Know.calls RatioSums_nb_k) := ⟨callt rfl rfl fun w hG => hsa w,
    callt rfl rfl fun w hG => hsb w,
    callt rfl rfl fun w hG => lives4_c w hG,
    trivial⟩
  have fin : ∀ v, @comes RatioSums_nb_k Tryz.prog glT 3000 RatioSums_nb_f RatioSums_nb_a = some v → ground v = true → Ending.returned (gval v) = .returned (.bool true) → Calls Tryz.prog 4 #[.agg #[.bool a.g, .string a.s, .string a.t], .agg #[.bool b.g, .string b.s, .string b.t]] w fun e w' => e = .returned (.bool true) ∧ Below w.heap.size w w' := fun v h1 h2 h3 => (@sym_ok _ RatioSums_nb_k _ (@KnowOk.of _ RatioSums_nb_k _ hops hcalls) (by kernel_rfl) _ _ _ _ h1 rfl h2 _ hG).mono fun e w' h => ⟨h.1.trans h3, h.2⟩
  clear hops hcalls
  exact fin _ (RatioSums_nb_r1) rfl rfl

@[reducible] def RatioSums_n1_f : FuncId := 4
@[reducible] def RatioSums_n1_a : List AV := [.agg [.sym 0, .sym 1, .sym 2], .agg [.sym 3, .sym 4, .sym 5]]
@[reducible] noncomputable def RatioSums_n1_k : Know := ⟨[([0, 12, 24], [.agg [.sym 6, .sym 7, .sym 8], .agg [.sym 22, .sym 23, .sym 24]], .lit (.bool false)),
  ([0, 12, 24], [.agg [.sym 9, .sym 10, .sym 11], .agg [.sym 28, .sym 29, .sym 30]], .lit (.bool false)),
  ([0, 12, 24], [.agg [.sym 12, .sym 13, .sym 14], .agg [.sym 31, .sym 32, .sym 33]], .lit (.bool false)),
  ([0, 12, 3], [.sym 18, .sym 34], .lit (.bool false)),
  ([0, 12, 24], [.agg [.sym 19, .sym 20, .sym 21], .agg [.sym 35, .sym 36, .sym 37]], .lit (.bool false)),
  ([0, 11, 22], [.sym 4, .lit (.string ⟨#[]⟩)], .lit (.bool false)),
  ([0, 11, 24], [.agg [.sym 15, .sym 16, .sym 17], .agg [.sym 38, .sym 39, .sym 40]], .lit (.bool true))],
  [(9, [.agg [.sym 0, .sym 1, .sym 2]], .lit (.bool true)),
  (9, [.agg [.sym 3, .sym 4, .sym 5]], .lit (.bool true)),
  (22, [.agg [.sym 0, .sym 1, .sym 2], .agg [.sym 3, .sym 4, .sym 5]], .tup [.agg [.sym 6, .sym 7, .sym 8], .lit (.int .i64 0)]),
  (23, [.agg [.sym 0, .sym 1, .sym 2], .agg [.sym 3, .sym 4, .sym 5]], .tup [.agg [.sym 9, .sym 10, .sym 11], .lit (.int .i64 0)]),
  (24, [.agg [.sym 0, .sym 1, .sym 2], .agg [.sym 3, .sym 4, .sym 5]], .tup [.agg [.sym 12, .sym 13, .sym 14], .lit (.int .i64 0)]),
  (25, [.agg [.sym 0, .sym 1, .sym 2], .agg [.sym 3, .sym 4, .sym 5]], .tup [.agg [.sym 15, .sym 16, .sym 17], .lit (.int .i64 0)]),
  (26, [.agg [.sym 0, .sym 1, .sym 2], .agg [.sym 3, .sym 4, .sym 5]], .tup [.sym 18, .lit (.int .i64 0)]),
  (27, [.agg [.sym 0, .sym 1, .sym 2]], .tup [.agg [.sym 19, .sym 20, .sym 21], .lit (.int .i64 0)]),
  (19, [.agg [.sym 0, .sym 1, .sym 2]], .lit (.bool true)),
  (19, [.agg [.sym 3, .sym 4, .sym 5]], .lit (.bool true)),
  (29, [.agg [.sym 0, .sym 1, .sym 2], .agg [.sym 3, .sym 4, .sym 5]], .agg [.sym 22, .sym 23, .sym 24]),
  (28, [.agg [.sym 3, .sym 4, .sym 5]], .agg [.sym 25, .sym 26, .sym 27]),
  (29, [.agg [.sym 0, .sym 1, .sym 2], .agg [.sym 25, .sym 26, .sym 27]], .agg [.sym 28, .sym 29, .sym 30]),
  (30, [.agg [.sym 0, .sym 1, .sym 2], .agg [.sym 3, .sym 4, .sym 5]], .agg [.sym 31, .sym 32, .sym 33]),
  (31, [.agg [.sym 0, .sym 1, .sym 2], .agg [.sym 3, .sym 4, .sym 5]], .sym 34),
  (28, [.agg [.sym 0, .sym 1, .sym 2]], .agg [.sym 35, .sym 36, .sym 37]),
  (32, [.agg [.sym 0, .sym 1, .sym 2], .agg [.sym 3, .sym 4, .sym 5]], .agg [.sym 38, .sym 39, .sym 40]),
  (11, [], .lit (.bool true))]⟩
theorem RatioSums_n1_r1 : @comes RatioSums_n1_k Tryz.prog glT 3000 RatioSums_n1_f RatioSums_n1_a = some (.lit (.bool true)) := by kernel_rfl

set_option maxRecDepth 100000 in
set_option maxHeartbeats 4000000 in
theorem RatioSums_n1 (x y : Rat) (w : World) (hG : Globs glT w) (hx : Bq x 300) (hy : Bq y 300) (hsx : ∀ w, Calls Tryz.prog 9 #[qv x] w fun e w' => e = .returned (.bool true) ∧ Below w.heap.size w w') (hsy : ∀ w, Calls Tryz.prog 9 #[qv y] w fun e w' => e = .returned (.bool true) ∧ Below w.heap.size w w') (hmx : ∀ w, Calls Tryz.prog 19 #[qv x] w fun e w' => e = .returned (.bool true) ∧ Below w.heap.size w w') (hmy : ∀ w, Calls Tryz.prog 19 #[qv y] w fun e w' => e = .returned (.bool true) ∧ Below w.heap.size w w') (hy0 : qN y ≠ 0) : Calls Tryz.prog 4 #[.agg #[.bool (qG x), .string (natS (qN x)), .string (natS (qD x))], .agg #[.bool (qG y), .string (natS (qN y)), .string (natS (qD y))]] w fun e w' => e = .returned (.bool true) ∧ Below w.heap.size w w' := by
  have h1 : ¬ (natS (qN y) = ⟨#[]⟩) := (fun c => hy0 (nul_nat.1 c))
  have i1 : false = true ↔ (natS (qN y) = ⟨#[]⟩) := ⟨fun k => absurd k Bool.false_ne_true, fun k => absurd k h1⟩
  letI : Env := mkEnv glT [.bool (qG x), .string (natS (qN x)), .string (natS (qD x)), .bool (qG y), .string (natS (qN y)), .string (natS (qD y)), .bool (qG (x + y)), .string (natS (qN (x + y))), .string (natS (qD (x + y))), .bool (qG (x - y)), .string (natS (qN (x - y))), .string (natS (qD (x - y))), .bool (qG (x * y)), .string (natS (qN (x * y))), .string (natS (qD (x * y))), .bool (qG (x / y)), .string (natS (qN (x / y))), .string (natS (qD (x / y))), .int .i64 (qC x y), .bool (qG (-x)), .string (natS (qN (-x))), .string (natS (qD (-x))), .bool (qG (x + y)), .string (natS (qN (x + y))), .string (natS (qD (x + y))), .bool (qG (-y)), .string (natS (qN (-y))), .string (natS (qD (-y))), .bool (qG (x - y)), .string (natS (qN (x - y))), .string (natS (qD (x - y))), .bool (qG (x * y)), .string (natS (qN (x * y))), .string (natS (qD (x * y))), .int .i64 (qC x y), .bool (qG (-x)), .string (natS (qN (-x))), .string (natS (qD (-x))), .bool (qG (x / y)), .string (natS (qN (x / y))), .string (natS (qD (x / y)))] rfl
  have hops : OpsT Tryz.prog (@Know.ops RatioSums_n1_k) := ⟨optR_neq_i (a := qr (x + y)) (b := qr (x + y)) rfl rfl ⟨fun _ => rfl, fun _ => rfl⟩,
    optR_neq_i (a := qr (x - y)) (b := qr (x - y)) rfl rfl ⟨fun _ => rfl, fun _ => rfl⟩,
    optR_neq_i (a := qr (x * y)) (b := qr (x * y)) rfl rfl ⟨fun _ => rfl, fun _ => rfl⟩,
    opt_neq_f rfl rfl rfl,
    optR_neq_i (a := qr (-x)) (b := qr (-x)) rfl rfl ⟨fun _ => rfl, fun _ => rfl⟩,
    optS_eql_i rfl rfl i1,
    optR_eql_i (a := qr (x / y)) (b := qr (x / y)) rfl rfl ⟨fun _ => rfl, fun _ => rfl⟩,
    trivial⟩
  have hcalls : CallsT Tryz.prog (@Know.calls RatioSums_n1_k) := ⟨callt rfl rfl fun w hG => hsx w,
    callt rfl rfl fun w hG => hsy w,
    callt rfl rfl fun w hG => QAdd x y (x + y) rfl (hx.fits (by decide)) (hy.fits (by decide)) ((hx.add hy).fits (by decide)) w,
    callt rfl rfl fun w hG => QSub x y (x - y) rfl (hx.fits (by decide)) (hy.fits (by decide)) ((hx.sub hy).fits (by decide)) w,
    callt rfl rfl fun w hG => QMul x y (x * y) rfl (hx.fits (by decide)) (hy.fits (by decide)) ((hx.mul hy).fits (by decide)) w,
    callt rfl rfl fun w hG => QQuo x y (x / y) rfl (hx.fits (by decide)) (hy.fits (by decide)) hy0 ((hx.quo hy hy0).fits (by decide)) w,
    callt rfl rfl fun w hG => PCompare_c x y w (hx.fits (by decide)) (hy.fits (by decide)),
    callt rfl rfl fun w hG => PNeg_c x w (hx.fits (by decide)),
    callt rfl rfl fun w hG => hmx w,
    callt rfl rfl fun w hG => hmy w,
    callt rfl rfl fun w hG => rAddQ x y (x + y) rfl w (hx.le (by decide)) (hy.le (by decide)),
    callt rfl rfl fun w hG => rNeg4_c y w,
    callt rfl rfl fun w hG => rAddQ x (-y) (x - y) (Rat.sub_eq_add_neg x y).symm w (hx.le (by decide)) (hy.neg.le (by decide)),
    callt rfl rfl fun w hG => rMulQ x y w (hx.le (by decide)) (hy.le (by decide)),
    callt rfl rfl fun w hG => rCompare4_c x y w (hx.le (by decide)) (hy.le (by decide)),
    callt rfl rfl fun w hG => rNeg4_c x w,
    callt rfl rfl fun w hG => rQuoQ x y w (hx.le (by decide)) (hy.le (by decide)) hy0,
    callt rfl rfl fun w hG => lives4_c w hG,
    trivial⟩
  have fin : ∀ v, @comes RatioSums_n1_k Tryz.prog glT 3000 RatioSums_n1_f RatioSums_n1_a = some v → ground v = true → Ending.returned (gval v) = .returned (.bool true) → Calls Tryz.prog 4 #[.agg #[.bool (qG x), .string (natS (qN x)), .string (natS (qD x))], .agg #[.bool (qG y), .string (natS (qN y)), .string (natS (qD y))]] w fun e w' => e = .returned (.bool true) ∧ Below w.heap.size w w' := fun v h1 h2 h3 => (@sym_ok _ RatioSums_n1_k _ (@KnowOk.of _ RatioSums_n1_k _ hops hcalls) (by kernel_rfl) _ _ _ _ h1 rfl h2 _ hG).mono fun e w' h => ⟨h.1.trans h3, h.2⟩
  clear hops hcalls
  exact fin _ (RatioSums_n1_r1) rfl rfl

@[reducible] def RatioSums_n0_f : FuncId := 4
@[reducible] def RatioSums_n0_a : List AV := [.agg [.sym 0, .sym 1, .sym 2], .agg [.sym 3, .sym 4, .sym 5]]
@[reducible] noncomputable def RatioSums_n0_k : Know := ⟨[([0, 12, 24], [.agg [.sym 6, .sym 7, .sym 8], .agg [.sym 19, .sym 20, .sym 21]], .lit (.bool false)),
  ([0, 12, 24], [.agg [.sym 9, .sym 10, .sym 11], .agg [.sym 25, .sym 26, .sym 27]], .lit (.bool false)),
  ([0, 12, 24], [.agg [.sym 12, .sym 13, .sym 14], .agg [.sym 28, .sym 29, .sym 30]], .lit (.bool false)),
  ([0, 12, 3], [.sym 15, .sym 31], .lit (.bool false)),
  ([0, 12, 24], [.agg [.sym 16, .sym 17, .sym 18], .agg [.sym 32, .sym 33, .sym 34]], .lit (.bool false)),
  ([0, 11, 22], [.sym 4, .lit (.string ⟨#[]⟩)], .lit (.bool true))],
  [(9, [.agg [.sym 0, .sym 1, .sym 2]], .lit (.bool true)),
  (9, [.agg [.sym 3, .sym 4, .sym 5]], .lit (.bool true)),
  (22, [.agg [.sym 0, .sym 1, .sym 2], .agg [.sym 3, .sym 4, .sym 5]], .tup [.agg [.sym 6, .sym 7, .sym 8], .lit (.int .i64 0)]),
  (23, [.agg [.sym 0, .sym 1, .sym 2], .agg [.sym 3, .sym 4, .sym 5]], .tup [.agg [.sym 9, .sym 10, .sym 11], .lit (.int .i64 0)]),
  (24, [.agg [.sym 0, .sym 1, .sym 2], .agg [.sym 3, .sym 4, .sym 5]], .tup [.agg [.sym 12, .sym 13, .sym 14], .lit (.int .i64 0)]),
  (25, [.agg [.sym 0, .sym 1, .sym 2], .agg [.sym 3, .sym 4, .sym 5]], .lit (.tuple #[.agg #[.bool false, .string ⟨#[]⟩, .string ⟨#[]⟩], .int .i64 2])),
  (26, [.agg [.sym 0, .sym 1, .sym 2], .agg [.sym 3, .sym 4, .sym 5]], .tup [.sym 15, .lit (.int .i64 0)]),
  (27, [.agg [.sym 0, .sym 1, .sym 2]], .tup [.agg [.sym 16, .sym 17, .sym 18], .lit (.int .i64 0)]),
  (19, [.agg [.sym 0, .sym 1, .sym 2]], .lit (.bool true)),
  (19, [.agg [.sym 3, .sym 4, .sym 5]], .lit (.bool true)),
  (29, [.agg [.sym 0, .sym 1, .sym 2], .agg [.sym 3, .sym 4, .sym 5]], .agg [.sym 19, .sym 20, .sym 21]),
  (28, [.agg [.sym 3, .sym 4, .sym 5]], .agg [.sym 22, .sym 23, .sym 24]),
  (29, [.agg [.sym 0, .sym 1, .sym 2], .agg [.sym 22, .sym 23, .sym 24]], .agg [.sym 25, .sym 26, .sym 27]),
  (30, [.agg [.sym 0, .sym 1, .sym 2], .agg [.sym 3, .sym 4, .sym 5]], .agg [.sym 28, .sym 29, .sym 30]),
  (31, [.agg [.sym 0, .sym 1, .sym 2], .agg [.sym 3, .sym 4, .sym 5]], .sym 31),
  (28, [.agg [.sym 0, .sym 1, .sym 2]], .agg [.sym 32, .sym 33, .sym 34]),
  (11, [], .lit (.bool true))]⟩
theorem RatioSums_n0_r1 : @comes RatioSums_n0_k Tryz.prog glT 3000 RatioSums_n0_f RatioSums_n0_a = some (.lit (.bool true)) := by kernel_rfl

set_option maxRecDepth 100000 in
set_option maxHeartbeats 4000000 in
theorem RatioSums_n0 (x y : Rat) (w : World) (hG : Globs glT w) (hx : Bq x 300) (hy : Bq y 300) (hsx : ∀ w, Calls Tryz.prog 9 #[qv x] w fun e w' => e = .returned (.bool true) ∧ Below w.heap.size w w') (hsy : ∀ w, Calls Tryz.prog 9 #[qv y] w fun e w' => e = .returned (.bool true) ∧ Below w.heap.size w w') (hmx : ∀ w, Calls Tryz.prog 19 #[qv x] w fun e w' => e = .returned (.bool true) ∧ Below w.heap.size w w') (hmy : ∀ w, Calls Tryz.prog 19 #[qv y] w fun e w' => e = .returned (.bool true) ∧ Below w.heap.size w w') (hy0 : qN y = 0) : Calls Tryz.prog 4 #[.agg #[.bool (qG x), .string (natS (qN x)), .string (natS (qD x))], .agg #[.bool (qG y), .string (natS (qN y)), .string (natS (qD y))]] w fun e w' => e = .returned (.bool true) ∧ Below w.heap.size w w' := by
  have h1 : natS (qN y) = ⟨#[]⟩ := (by rw [hy0, natS_zero])
  have i1 : true = true ↔ (natS (qN y) = ⟨#[]⟩) := ⟨fun _ => h1, fun _ => rfl⟩
  letI : Env := mkEnv glT [.bool (qG x), .string (natS (qN x)), .string (natS (qD x)), .bool (qG y), .string (natS (qN y)), .string (natS (qD y)), .bool (qG (x + y)), .string (natS (qN (x + y))), .string (natS (qD (x + y))), .bool (qG (x - y)), .string (natS (qN (x - y))), .string (natS (qD (x - y))), .bool (qG (x * y)), .string (natS (qN (x * y))), .string (natS (qD (x * y))), .int .i64 (qC x y), .bool (qG (-x)), .string (natS (qN (-x))), .string (natS (qD (-x))), .bool (qG (x + y)), .string (natS (qN (x + y))), .string (natS (qD (x + y))), .bool (qG (-y)), .string (natS (qN (-y))), .string (natS (qD (-y))), .bool (qG (x - y)), .string (natS (qN (x - y))), .string (natS (qD (x - y))), .bool (qG (x * y)), .string (natS (qN (x * y))), .string (natS (qD (x * y))), .int .i64 (qC x y), .bool (qG (-x)), .string (natS (qN (-x))), .string (natS (qD (-x)))] rfl
  have hops : OpsT Tryz.prog (@Know.ops RatioSums_n0_k) := ⟨optR_neq_i (a := qr (x + y)) (b := qr (x + y)) rfl rfl ⟨fun _ => rfl, fun _ => rfl⟩,
    optR_neq_i (a := qr (x - y)) (b := qr (x - y)) rfl rfl ⟨fun _ => rfl, fun _ => rfl⟩,
    optR_neq_i (a := qr (x * y)) (b := qr (x * y)) rfl rfl ⟨fun _ => rfl, fun _ => rfl⟩,
    opt_neq_f rfl rfl rfl,
    optR_neq_i (a := qr (-x)) (b := qr (-x)) rfl rfl ⟨fun _ => rfl, fun _ => rfl⟩,
    optS_eql_i rfl rfl i1,
    trivial⟩
  have hcalls : CallsT Tryz.prog (@Know.calls RatioSums_n0_k) := ⟨callt rfl rfl fun w hG => hsx w,
    callt rfl rfl fun w hG => hsy w,
    callt rfl rfl fun w hG => QAdd x y (x + y) rfl (hx.fits (by decide)) (hy.fits (by decide)) ((hx.add hy).fits (by decide)) w,
    callt rfl rfl fun w hG => QSub x y (x - y) rfl (hx.fits (by decide)) (hy.fits (by decide)) ((hx.sub hy).fits (by decide)) w,
    callt rfl rfl fun w hG => QMul x y (x * y) rfl (hx.fits (by decide)) (hy.fits (by decide)) ((hx.mul hy).fits (by decide)) w,
    callt rfl rfl fun w hG => PQuo_z x y w hy0,
    callt rfl rfl fun w hG => PCompare_c x y w (hx.fits (by decide)) (hy.fits (by decide)),
    callt rfl rfl fun w hG => PNeg_c x w (hx.fits (by decide)),
    callt rfl rfl fun w hG => hmx w,
    callt rfl rfl fun w hG => hmy w,
    callt rfl rfl fun w hG => rAddQ x y (x + y) rfl w (hx.le (by decide)) (hy.le (by decide)),
    callt rfl rfl fun w hG => rNeg4_c y w,
    callt rfl rfl fun w hG => rAddQ x (-y) (x - y) (Rat.sub_eq_add_neg x y).symm w (hx.le (by decide)) (hy.neg.le (by decide)),
    callt rfl rfl fun w hG => rMulQ x y w (hx.le (by decide)) (hy.le (by decide)),
    callt rfl rfl fun w hG => rCompare4_c x y w (hx.le (by decide)) (hy.le (by decide)),
    callt rfl rfl fun w hG => rNeg4_c x w,
    callt rfl rfl fun w hG => lives4_c w hG,
    trivial⟩
  have fin : ∀ v, @comes RatioSums_n0_k Tryz.prog glT 3000 RatioSums_n0_f RatioSums_n0_a = some v → ground v = true → Ending.returned (gval v) = .returned (.bool true) → Calls Tryz.prog 4 #[.agg #[.bool (qG x), .string (natS (qN x)), .string (natS (qD x))], .agg #[.bool (qG y), .string (natS (qN y)), .string (natS (qD y))]] w fun e w' => e = .returned (.bool true) ∧ Below w.heap.size w w' := fun v h1 h2 h3 => (@sym_ok _ RatioSums_n0_k _ (@KnowOk.of _ RatioSums_n0_k _ hops hcalls) (by kernel_rfl) _ _ _ _ h1 rfl h2 _ hG).mono fun e w' h => ⟨h.1.trans h3, h.2⟩
  clear hops hcalls
  exact fin _ (RatioSums_n0_r1) rfl rfl

@[reducible] def RatioSums_ba_f : FuncId := 4
@[reducible] def RatioSums_ba_a : List AV := [.agg [.sym 0, .sym 1, .sym 2], .agg [.sym 3, .sym 4, .sym 5]]
@[reducible] noncomputable def RatioSums_ba_k : Know := ⟨[],
  [(9, [.agg [.sym 0, .sym 1, .sym 2]], .lit (.bool true)),
  (9, [.agg [.sym 3, .sym 4, .sym 5]], .lit (.bool true)),
  (22, [.agg [.sym 0, .sym 1, .sym 2], .agg [.sym 3, .sym 4, .sym 5]], .lit (.tuple #[.agg #[.bool false, .string ⟨#[]⟩, .string ⟨#[]⟩], .int .i64 2])),
  (23, [.agg [.sym 0, .sym 1, .sym 2], .agg [.sym 3, .sym 4, .sym 5]], .lit (.tuple #[.agg #[.bool false, .string ⟨#[]⟩, .string ⟨#[]⟩], .int .i64 2])),
  (24, [.agg [.sym 0, .sym 1, .sym 2], .agg [.sym 3, .sym 4, .sym 5]], .lit (.tuple #[.agg #[.bool false, .string ⟨#[]⟩, .string ⟨#[]⟩], .int .i64 2])),
  (25, [.agg [.sym 0, .sym 1, .sym 2], .agg [.sym 3, .sym 4, .sym 5]], .lit (.tuple #[.agg #[.bool false, .string ⟨#[]⟩, .string ⟨#[]⟩], .int .i64 2])),
  (26, [.agg [.sym 0, .sym 1, .sym 2], .agg [.sym 3, .sym 4, .sym 5]], .lit (.tuple #[.int .i64 0, .int .i64 2])),
  (27, [.agg [.sym 0, .sym 1, .sym 2]], .lit (.tuple #[.agg #[.bool false, .string ⟨#[]⟩, .string ⟨#[]⟩], .int .i64 2])),
  (19, [.agg [.sym 0, .sym 1, .sym 2]], .lit (.bool false)),
  (11, [], .lit (.bool true))]⟩
theorem RatioSums_ba_r1 : @comes RatioSums_ba_k Tryz.prog glT 3000 RatioSums_ba_f RatioSums_ba_a = some (.lit (.bool true)) := by kernel_rfl

set_option maxRecDepth 100000 in
set_option maxHeartbeats 4000000 in
theorem RatioSums_ba (a b : Rx) (w : World) (hG : Globs glT w) (hna : a.No) (hsa : ∀ w, Calls Tryz.prog 9 #[.agg #[.bool a.g, .string a.s, .string a.t]] w fun e w' => e = .returned (.bool true) ∧ Below w.heap.size w w') (hsb : ∀ w, Calls Tryz.prog 9 #[.agg #[.bool b.g, .string b.s, .string b.t]] w fun e w' => e = .returned (.bool true) ∧ Below w.heap.size w w') (hma : ∀ w, Calls Tryz.prog 19 #[.agg #[.bool a.g, .string a.s, .string a.t]] w fun e w' => e = .returned (.bool false) ∧ Below w.heap.size w w') : Calls Tryz.prog 4 #[.agg #[.bool a.g, .string a.s, .string a.t], .agg #[.bool b.g, .string b.s, .string b.t]] w fun e w' => e = .returned (.bool true) ∧ Below w.heap.size w w' := by
  letI : Env := mkEnv glT [.bool a.g, .string a.s, .string a.t, .bool b.g, .string b.s, .string b.t] rfl
  have hops : OpsT Tryz.prog (@Know.ops RatioSums_ba_k) := trivial
  have hcalls : CallsT Tryz.prog (@Know.calls RatioSums_ba_k) := ⟨callt rfl rfl fun w hG => hsa w,
    callt rfl rfl fun w hG => hsb w,
    callt rfl rfl fun w hG => PAdd_no a b w (Or.inl hna),
    callt rfl rfl fun w hG => PSub_no a b w (Or.inl hna),
    callt rfl rfl fun w hG => PMul_no a b w (Or.inl hna),
    callt rfl rfl fun w hG => PQuo_any a b w (Or.inl hna),
    callt rfl rfl fun w hG => PCompare_no a b w (Or.inl hna),
    callt rfl rfl fun w hG => PNeg_no a w hna,
    callt rfl rfl fun w hG => hma w,
    callt rfl rfl fun w hG => lives4_c w hG,
    trivial⟩
  have fin : ∀ v, @comes RatioSums_ba_k Tryz.prog glT 3000 RatioSums_ba_f RatioSums_ba_a = some v → ground v = true → Ending.returned (gval v) = .returned (.bool true) → Calls Tryz.prog 4 #[.agg #[.bool a.g, .string a.s, .string a.t], .agg #[.bool b.g, .string b.s, .string b.t]] w fun e w' => e = .returned (.bool true) ∧ Below w.heap.size w w' := fun v h1 h2 h3 => (@sym_ok _ RatioSums_ba_k _ (@KnowOk.of _ RatioSums_ba_k _ hops hcalls) (by kernel_rfl) _ _ _ _ h1 rfl h2 _ hG).mono fun e w' h => ⟨h.1.trans h3, h.2⟩
  clear hops hcalls
  exact fin _ (RatioSums_ba_r1) rfl rfl

@[reducible] def RatioSums_bb_f : FuncId := 4
@[reducible] def RatioSums_bb_a : List AV := [.agg [.sym 0, .sym 1, .sym 2], .agg [.sym 3, .sym 4, .sym 5]]
@[reducible] noncomputable def RatioSums_bb_k : Know := ⟨[([0, 12, 24], [.agg [.sym 6, .sym 7, .sym 8], .agg [.sym 9, .sym 10, .sym 11]], .lit (.bool false))],
  [(9, [.agg [.sym 0, .sym 1, .sym 2]], .lit (.bool true)),
  (9, [.agg [.sym 3, .sym 4, .sym 5]], .lit (.bool true)),
  (22, [.agg [.sym 0, .sym 1, .sym 2], .agg [.sym 3, .sym 4, .sym 5]], .lit (.tuple #[.agg #[.bool false, .string ⟨#[]⟩, .string ⟨#[]⟩], .int .i64 2])),
  (23, [.agg [.sym 0, .sym 1, .sym 2], .agg [.sym 3, .sym 4, .sym 5]], .lit (.tuple #[.agg #[.bool false, .string ⟨#[]⟩, .string ⟨#[]⟩], .int .i64 2])),
  (24, [.agg [.sym 0, .sym 1, .sym 2], .agg [.sym 3, .sym 4, .sym 5]], .lit (.tuple #[.agg #[.bool false, .string ⟨#[]⟩, .string ⟨#[]⟩], .int .i64 2])),
  (25, [.agg [.sym 0, .sym 1, .sym 2], .agg [.sym 3, .sym 4, .sym 5]], .lit (.tuple #[.agg #[.bool false, .string ⟨#[]⟩, .string ⟨#[]⟩], .int .i64 2])),
  (26, [.agg [.sym 0, .sym 1, .sym 2], .agg [.sym 3, .sym 4, .sym 5]], .lit (.tuple #[.int .i64 0, .int .i64 2])),
  (27, [.agg [.sym 0, .sym 1, .sym 2]], .tup [.agg [.sym 6, .sym 7, .sym 8], .lit (.int .i64 0)]),
  (19, [.agg [.sym 0, .sym 1, .sym 2]], .lit (.bool true)),
  (19, [.agg [.sym 3, .sym 4, .sym 5]], .lit (.bool false)),
  (28, [.agg [.sym 0, .sym 1, .sym 2]], .agg [.sym 9, .sym 10, .sym 11]),
  (11, [], .lit (.bool true))]⟩
theorem RatioSums_bb_r1 : @comes RatioSums_bb_k Tryz.prog glT 3000 RatioSums_bb_f RatioSums_bb_a = some (.lit (.bool true)) := by kernel_rfl

set_option maxRecDepth 100000 in
set_option maxHeartbeats 4000000 in
theorem RatioSums_bb (x : Rat) (b : Rx) (w : World) (hG : Globs glT w) (hnb : b.No) (hfx : qfits x) (hsx : ∀ w, Calls Tryz.prog 9 #[qv x] w fun e w' => e = .returned (.bool true) ∧ Below w.heap.size w w') (hsb : ∀ w, Calls Tryz.prog 9 #[.agg #[.bool b.g, .string b.s, .string b.t]] w fun e w' => e = .returned (.bool true) ∧ Below w.heap.size w w') (hmx : ∀ w, Calls Tryz.prog 19 #[qv x] w fun e w' => e = .returned (.bool true) ∧ Below w.heap.size w w') (hmb : ∀ w, Calls Tryz.prog 19 #[.agg #[.bool b.g, .string b.s, .string b.t]] w fun e w' => e = .returned (.bool false) ∧ Below w.heap.size w w') : Calls Tryz.prog 4 #[.agg #[.bool (qG x), .string (natS (qN x)), .string (natS (qD x))], .agg #[.bool b.g, .string b.s, .string b.t]] w fun e w' => e = .returned (.bool true) ∧ Below w.heap.size w w' := by
  letI : Env := mkEnv glT [.bool (qG x), .string (natS (qN x)), .string (natS (qD x)), .bool b.g, .string b.s, .string b.t, .bool (qG (-x)), .string (natS (qN (-x))), .string (natS (qD (-x))), .bool (qG (-x)), .string (natS (qN (-x))), .string (natS (qD (-x)))] rfl
  have hops : OpsT Tryz.prog (@Know.ops RatioSums_bb_k) := ⟨optR_neq_i (a := qr (-x)) (b := qr (-x)) rfl rfl ⟨fun _ => rfl, fun _ => rfl⟩,
    trivial⟩
  have hcalls : CallsT Tryz.prog (@Know.calls RatioSums_bb_k) := ⟨callt rfl rfl fun w hG => hsx w,
    callt rfl rfl fun w hG => hsb w,
    callt rfl rfl fun w hG => PAdd_no (qr x) b w (Or.inr hnb),
    callt rfl rfl fun w hG => PSub_no (qr x) b w (Or.inr hnb),
    callt rfl rfl fun w hG => PMul_no (qr x) b w (Or.inr hnb),
    callt rfl rfl fun w hG => PQuo_any (qr x) b w (Or.inr hnb),
    callt rfl rfl fun w hG => PCompare_no (qr x) b w (Or.inr hnb),
    callt rfl rfl fun w hG => PNeg_c x w hfx,
    callt rfl rfl fun w hG => hmx w,
    callt rfl rfl fun w hG => hmb w,
    callt rfl rfl fun w hG => rNeg4_c x w,
    callt rfl rfl fun w hG => lives4_c w hG,
    trivial⟩
  have fin : ∀ v, @comes RatioSums_bb_k Tryz.prog glT 3000 RatioSums_bb_f RatioSums_bb_a = some v → ground v = true → Ending.returned (gval v) = .returned (.bool true) → Calls Tryz.prog 4 #[.agg #[.bool (qG x), .string (natS (qN x)), .string (natS (qD x))], .agg #[.bool b.g, .string b.s, .string b.t]] w fun e w' => e = .returned (.bool true) ∧ Below w.heap.size w w' := fun v h1 h2 h3 => (@sym_ok _ RatioSums_bb_k _ (@KnowOk.of _ RatioSums_bb_k _ hops hcalls) (by kernel_rfl) _ _ _ _ h1 rfl h2 _ hG).mono fun e w' h => ⟨h.1.trans h3, h.2⟩
  clear hops hcalls
  exact fin _ (RatioSums_bb_r1) rfl rfl

theorem RatioSums_law (a b : Rx) (w : World) (hG : Globs glT w) (ha : a.s.size ≤ 9223372036854775807 ∧ a.t.size ≤ 9223372036854775807) (hb : b.s.size ≤ 9223372036854775807 ∧ b.t.size ≤ 9223372036854775807) : Calls Tryz.prog 4 #[.agg #[.bool a.g, .string a.s, .string a.t], .agg #[.bool b.g, .string b.s, .string b.t]] w fun e w' => e = .returned (.bool true) ∧ Below w.heap.size w w' := by
  have sa := fun w => Psmall_c a w ha.1 ha.2
  have sb := fun w => Psmall_c b w hb.1 hb.2
  cases h1 : smB a with
  | false => rw [h1] at sa; exact RatioSums_na a b w hG sa
  | true =>
    rw [h1] at sa
    cases h2 : smB b with
    | false => rw [h2] at sb; exact RatioSums_nb a b w hG sa sb
    | true =>
      rw [h2] at sb
      have z1 := smB_iff.1 h1
      have z2 := smB_iff.1 h2
      have ma := fun w => rMay4_any a w ⟨Nat.le_trans z1.1 (by decide), Nat.le_trans z1.2 (by decide)⟩
      have mb := fun w => rMay4_any b w ⟨Nat.le_trans z2.1 (by decide), Nat.le_trans z2.2 (by decide)⟩
      rcases a.cases_ with ⟨x, hx⟩ | hna
      · rw [mayR_iff.2 ⟨x, hx⟩] at ma
        have bx := hx.bytes z1
        rcases b.cases_ with ⟨y, hy⟩ | hnb
        · rw [mayR_iff.2 ⟨y, hy⟩] at mb
          have by' := hy.bytes z2
          obtain ⟨_, rfl⟩ := hx
          obtain ⟨_, rfl⟩ := hy
          by_cases h0 : qN y = 0
          · exact RatioSums_n0 x y w hG bx by' sa sb ma mb h0
          · exact RatioSums_n1 x y w hG bx by' sa sb ma mb h0
        · have e : mayR b = false := Bool.eq_false_iff.2 (fun c => by obtain ⟨q, hq⟩ := mayR_iff.1 c; exact hnb q hq)
          rw [e] at mb
          obtain ⟨hf, rfl⟩ := hx
          exact RatioSums_bb x b w hG hnb hf sa sb ma mb
      · have e : mayR a = false := Bool.eq_false_iff.2 (fun c => by obtain ⟨q, hq⟩ := mayR_iff.1 c; exact hna q hq)
        rw [e] at ma
        exact RatioSums_ba a b w hG hna sa sb ma

end Go.Proofs.YtajcapliokblfaaGreatDoor
namespace Go.Proofs.YtajcapliokblfaaGreatDoor
open Go Go.RowKit Go.WideShapes Go.ChangeShapes
variable {H : Type} {enc : TypeId × Value → H} {P : Program}

theorem postBelow {f : Func} {s : ChangeSpec} {apart fresh handsOn again : Bool} {W W' : World} {args : Array Value} {v : Value} {ds gs : List (DataW H)} {places pa pv : List MemPlace}
    (whole : DataW.Whole enc P f.params.toList s.vars apart W args.toList ds gs places)
    (res : ∀ (b : Nat) (sp : Nat → Bool) (hd : Bool), DataW.TrodAll enc P W' b sp hd f.resultTypes.toList (v.resultList f.resultTypes.size) (s.fn H (ds ++ gs)).results [])
    (left : ∀ sp : Nat → Bool, (∀ p ∈ places, sp p.block = true) → DataW.TrodAll enc P W' 0 sp true f.params.toList args.toList (s.fn H (ds ++ gs)).args pa)
    (vars : ∀ sp : Nat → Bool, (∀ p ∈ places, sp p.block = true) → DataW.TrodVars enc P W' sp s.vars (s.fn H (ds ++ gs)).vars pv)
    (split : places = pa ++ pv) (below : Below W.heap.size W W')
    (ok : ∀ (j : Nat) (t : TypeId) (r : Value), f.resultTypes[j]? = some t → (v.resultList f.resultTypes.size)[j]? = some r → Value.okWide P W' .any 0 t r) :
    s.post enc P f apart fresh handsOn again W args v W' := by
  have old : ∀ p ∈ places, p.block < W.heap.size := fun p hp => whole.lt p hp
  have same : ∀ p ∈ places, (fun b => decide (b < W.heap.size)) p.block = true := fun p hp => decide_eq_true (old p hp)
  have kept : W.keptBut W' (fun p => p ∈ places ∧ p ∈ pa ++ pv) :=
    World.keptBut_mono (fun p hp => ⟨hp, split ▸ hp⟩) (below.frame (· ∈ places))
  have free : ∀ b off, MemPlace.cell b off ∈ pa ++ pv → W'.frozen? ⟨b, off, none⟩ = false := fun b off hp => by
    have hin : MemPlace.cell b off ∈ places := split ▸ hp
    rw [below.frozen (p := ⟨b, off, none⟩) (old _ hin)]
    obtain ⟨_, _, _, _, _, hz, _⟩ := whole
    exact hz b off hin
  have apartNow : apart = true → (pa ++ pv).Nodup := fun ha => by
    obtain ⟨_, _, _, _, _, _, hn⟩ := whole
    exact split ▸ hn ha
  refine ⟨ds, gs, places, [], pa, pv, whole, res _ _ _, left _ same, vars _ same, ?_, fun _ => ⟨ok, _, _, ([] ++ pa) ++ pv, ⟨[] ++ pa, pv, trodAll_append (left _ (fun _ _ => rfl)) (res _ _ _), vars _ (fun _ _ => rfl), rfl, ?_, ?_⟩, ?_⟩⟩
  · exact World.keptBut_mono (fun p hp => ⟨hp.1, Or.inr (List.mem_append.1 hp.2)⟩) kept
  · intro b off hp; exact free b off (by simpa using hp)
  · intro ha; simpa using apartNow ha
  · intro p hp _; rw [split]; simpa using hp
end Go.Proofs.YtajcapliokblfaaGreatDoor
set_option linter.unusedVariables false
namespace Go.Proofs.YtajcapliokblfaaGreatDoor
open Go Go.ChangeShapes Go.WideShapes Go.ChangeAt Go.RowKit Go.Joins
variable {H : Type} {enc : TypeId × Value → H}
/-- A Ratio's datum. -/
def ratD (H : Type) (r : Rx) : DataW H := .agg [.lit (.bool r.g), .lit (.string r.s.data.toList), .lit (.string r.t.data.toList)]
def Rx.max (r : Rx) : Prop := r.s.size ≤ maxLen ∧ r.t.size ≤ maxLen
theorem Rx.max.sz {r : Rx} (h : r.max) : r.s.size ≤ 9223372036854775807 ∧ r.t.size ≤ 9223372036854775807 := by
  have h1 := h.1; have h2 := h.2
  unfold maxLen at h1 h2
  exact ⟨by omega, by omega⟩
set_option maxRecDepth 100000 in
theorem open_rat {w : World} {base : Nat} {spare : Nat → Bool} {held : Bool} {r : Go.Reach} {b0 : Nat} {v : Value} {d : DataW H} {p : List MemPlace}
    (hv : Value.okWide Tryz.prog w r b0 24 v) (h : DataW.Trod enc Tryz.prog w base spare held 24 v d p) :
    ∃ a : Rx, v = .agg #[.bool a.g, .string a.s, .string a.t] ∧ d = ratD H a ∧ p = [] ∧ a.max := by
  obtain ⟨c0, c1, c2, y0, y1, y2, m, rfl, rfl, rfl, hy0, hy1, hy2⟩ := open_agg3 Tryz.underlying24 (by kernel_rfl) (by kernel_rfl) hv h
  obtain ⟨g, e0, rfl⟩ := DataW.trod_bool Tryz.underlying4 hy0
  obtain ⟨s, e1, rfl, hs⟩ := DataW.trod_string Tryz.underlying22 hy1
  obtain ⟨t, e2, rfl, ht⟩ := DataW.trod_string Tryz.underlying22 hy2
  simp at e0 e1 e2
  subst e0 e1 e2
  exact ⟨⟨g, s, t⟩, rfl, rfl, rfl, hs, ht⟩
set_option maxRecDepth 100000 in
theorem shut_rat {W' : World} {b : Nat} {sp : Nat → Bool} {hd : Bool} {a : Rx} (hm : a.max) :
    DataW.Trod enc Tryz.prog W' b sp hd 24 (.agg #[.bool a.g, .string a.s, .string a.t]) (ratD H a) [] := by
  simpa [ratD] using shut_agg3 (enc := enc) (w := W') (base := b) (spare := sp) (held := hd) (y0 := (.lit (.bool a.g), [])) (y1 := (.lit (.string a.s.data.toList), [])) (y2 := (.lit (.string a.t.data.toList), [])) Tryz.underlying24 (by kernel_rfl) (by kernel_rfl) ⟨1, by simp [DataW.trod, Tryz.underlying4]⟩ ⟨1, by simp [DataW.trod, Tryz.underlying22, hm.1]⟩ ⟨1, by simp [DataW.trod, Tryz.underlying22, hm.2]⟩
end Go.Proofs.YtajcapliokblfaaGreatDoor
