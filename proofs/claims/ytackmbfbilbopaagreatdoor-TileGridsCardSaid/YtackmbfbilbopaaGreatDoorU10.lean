/- Texts put together: TG8d. -/
import Derived.Test.YtackmbfbilbopaaGreatDoorU6
import Derived.IntWalk
import Derived.RangeFuncNested
import Derived.RangeFuncBound
import Derived.RangeFuncCalls
import Derived.RangeFuncLeaves
import Derived.RangeFuncFrom
import Derived.Shelf.Abstract
import Derived.Shelf.RegionOpen
import Derived.WalkKit
import Derived.OwnWalkIn
import Derived.TacticsInMore
import Derived.LoopNIn
import Derived.LoopIn
import Derived.WalkMore
set_option linter.unusedSimpArgs false
set_option linter.unusedVariables false
namespace Go.Proofs.YtackmbfbilbopaaGreatDoor
open Go Go.RowKit Nt
attribute [local go_sem] Oper.semAt_some
attribute [local go_sem] wide_fn25 eql_nilF
set_option maxRecDepth 100000 in
set_option maxHeartbeats 16000000 in
theorem TG_oo (G : GrT) (n c r lv : Int) (w : World) (hs : G.w.c.Small) (hG0 : G.Ok) (hk : ¬ (0 ≤ n ∧ n < G.A * G.D)) (hc : ¬ (0 ≤ c ∧ 0 ≤ r ∧ c < G.w.a ∧ r < G.w.d)) (hG : Globs glT w) : CallsIn Fence.wide 3 Tryz.prog 3 #[.agg #[.bool G.w.c.re.g, .string G.w.c.re.s, .int .i64 G.w.c.re.x, .bool G.w.c.im.g, .string G.w.c.im.s, .int .i64 G.w.c.im.x, .int .i64 G.w.e, .int .i64 G.w.a, .int .i64 G.w.d, .int .i64 G.x, .int .i64 G.h], .int .i64 n, .int .i64 c, .int .i64 r, .int .i64 lv] w fun e w' => e = .returned (.bool true) ∧ Below w.heap.size w w' := by
  have HG := Lib.hid hG
  have HO := Lib.hid hG0
  have T0 := GL.start w G lv
  obtain ⟨⟨r0, r1, r2, r3, r4, r5, r6, r7, r8, r9, r10, r11⟩, l1, m1, m2⟩ := T0.facts
  have hAD := GrT.ad hG0.1 hG0.2.1
  have hAD2 := hG0.2.2
  have hnn := Int.mul_nonneg (show 0 ≤ G.A by omega) (show 0 ≤ G.D by omega)
  obtain ⟨N, hN⟩ : ∃ N : Nat, G.A * G.D = (N : Nat) := ⟨(G.A * G.D).toNat, by omega⟩
  have HN := Lib.hid hN
  have hN6 : N ≤ 65536 := by omega
  have K1 := Lib.hid (fun w => rTCheck_c G w hs)
  have K2 := Lib.hid (fun w hG => TCheck_c G w hs hG)
  have K3 := Lib.hid (fun w hG => TCount_c G w hs hG)
  have K4 := Lib.hid (fun w hG => TRect_out G n w hs hG0 hk hG)
  have K5 := Lib.hid (fun w hG => TAt_out G c r w hs hG0 hc hG)
  have K6 := Lib.hid (fun w hG => TRects_c G w hs hG)
  have K7 := Lib.hid (fun w => rTCount_c G w hG0)
  have K8 := Lib.hid (fun w => rTRect_out G n w hG0 hk)
  have K9 := Lib.hid (fun w => rTAt_out G c r w hc)
  have KR := Lib.hid (fun (k : Nat) (hk : k < N) w => rTRect_in G (k : Int) w hG0 (by omega) (by rw [hN]; omega))
  rw [gdE_ok hG0] at K1 K2 K3
  rw [(GrT.c_ok hG0).1, (GrT.c_ok hG0).2] at K3 K6
  have RS := Lib.hid (fun nA nD nG nb w => Rects_stops (3 - 1) (by decide) nA nD nG nb N G hG0 hN w)
  obtain ⟨⟨a1, a2, _⟩, d1, d2, _⟩ := hAD
  clear hs hk hc hG hG0 hAD2 hnn
  have hN2 : IntKind.i64.wrap (G.A * G.D) = (N : Int) := by rw [hN]; exact IntWalk.i64_in _ (by omega)
  have HR := Lib.hid hN2
  generalize G.A = A at *
  generalize G.D = D at *
  refine callsIn_of_wp_marks Tryz.func3 rfl trivial ?_ rfl
  simp only [Tryz.ntmps3, List.size_toArray, List.length_cons, List.length_nil, Nat.reduceAdd, Nat.reduceSub, Array.replicate_succ, Array.replicate_zero, List.push_toArray, List.append_toArray, List.nil_append, List.cons_append]
  gi_wp2_with (gi_at_call 4; refine ((callsIn_wide (n := _)).2 (K1.out _)).mono ?_; rintro e w1 ⟨rfl, hb⟩; replace T0 := T0.step hb; clear r0 r1 r2 r3 r4 r5 r6 r7 r8 r9 r10 r11 l1 m1 m2; obtain ⟨⟨r0, r1, r2, r3, r4, r5, r6, r7, r8, r9, r10, r11⟩, l1, m1, m2⟩ := T0.facts)
  gi_wp2_with (gi_at_call 5; refine ((callsIn_wide (n := _)).2 (K2.out _ (HG.out.below T0.low (Nat.le_refl _)))).mono ?_; rintro e w1 ⟨rfl, hb⟩; replace T0 := T0.step hb; clear r0 r1 r2 r3 r4 r5 r6 r7 r8 r9 r10 r11 l1 m1 m2; obtain ⟨⟨r0, r1, r2, r3, r4, r5, r6, r7, r8, r9, r10, r11⟩, l1, m1, m2⟩ := T0.facts)
  gi_wp2_with (gi_at_call 6; refine ((callsIn_wide (n := _)).2 (K3.out _ (HG.out.below T0.low (Nat.le_refl _)))).mono ?_; rintro e w1 ⟨rfl, hb⟩; replace T0 := T0.step hb; clear r0 r1 r2 r3 r4 r5 r6 r7 r8 r9 r10 r11 l1 m1 m2; obtain ⟨⟨r0, r1, r2, r3, r4, r5, r6, r7, r8, r9, r10, r11⟩, l1, m1, m2⟩ := T0.facts)
  gi_wp2_with (gi_at_call 7; refine ((callsIn_wide (n := _)).2 (K4.out _ (HG.out.below T0.low (Nat.le_refl _)))).mono ?_; rintro e wR ⟨rfl, hb⟩; replace T0 := T0.step hb; have C0 := Blk.new wR 37 #[.int .i64 0, .int .i64 0, .int .i64 0, .int .i64 0]; replace T0 := T0.more (.cells #[.int .i64 0, .int .i64 0, .int .i64 0, .int .i64 0] 37); clear r0 r1 r2 r3 r4 r5 r6 r7 r8 r9 r10 r11 l1 m1 m2; obtain ⟨⟨r0, r1, r2, r3, r4, r5, r6, r7, r8, r9, r10, r11⟩, l1, m1, m2⟩ := T0.facts)
  gi_wp2_with (gi_at_call 8; refine ((callsIn_wide (n := _)).2 (K5.out _ (HG.out.below T0.low (Nat.le_refl _)))).mono ?_; rintro e w1 ⟨rfl, hb⟩; replace T0 := T0.step hb; replace C0 := C0.below hb C0.lt; clear r0 r1 r2 r3 r4 r5 r6 r7 r8 r9 r10 r11 l1 m1 m2; obtain ⟨⟨r0, r1, r2, r3, r4, r5, r6, r7, r8, r9, r10, r11⟩, l1, m1, m2⟩ := T0.facts)
  gi_wp2_with (gi_at_call 9; refine ((callsIn_wide (n := _)).2 (K6.out _ (HG.out.below T0.low (Nat.le_refl _)))).mono ?_; rintro e w6 ⟨nA, nD, nG, rfl, hb, ⟨zA, zD, zG⟩, cA, cD, gB⟩; replace T0 := T0.step hb; replace C0 := C0.below hb C0.lt; have H6 := Below.refl w6.heap.size w6; have HZ6 := T0.b10.lt; clear r0 r1 r2 r3 r4 r5 r6 r7 r8 r9 r10 r11 l1 m1 m2; obtain ⟨⟨r0, r1, r2, r3, r4, r5, r6, r7, r8, r9, r10, r11⟩, l1, m1, m2⟩ := T0.facts)
  gi_wp2_with (gi_at_call 11; refine ((callsIn_wide (n := _)).2 (K7.out _)).mono ?_; rintro e w1 ⟨rfl, hb⟩; replace T0 := T0.step hb; replace C0 := C0.below hb C0.lt; replace H6 := below_then H6 hb; clear r0 r1 r2 r3 r4 r5 r6 r7 r8 r9 r10 r11 l1 m1 m2; obtain ⟨⟨r0, r1, r2, r3, r4, r5, r6, r7, r8, r9, r10, r11⟩, l1, m1, m2⟩ := T0.facts)
  gi_wp2_with (gi_at_call 12; refine ((callsIn_wide (n := _)).2 (K8.out _)).mono ?_; rintro e wQ ⟨rfl, hb⟩; replace T0 := T0.step hb; replace C0 := C0.below hb C0.lt; replace H6 := below_then H6 hb; have C1 := Blk.new wQ 37 #[.int .i64 0, .int .i64 0, .int .i64 0, .int .i64 0]; replace C0 := C0.alloc (.cells #[.int .i64 0, .int .i64 0, .int .i64 0, .int .i64 0] 37); replace H6 := H6.alloc H6.size (.cells #[.int .i64 0, .int .i64 0, .int .i64 0, .int .i64 0] 37); replace T0 := T0.more (.cells #[.int .i64 0, .int .i64 0, .int .i64 0, .int .i64 0] 37); clear r0 r1 r2 r3 r4 r5 r6 r7 r8 r9 r10 r11 l1 m1 m2; obtain ⟨⟨r0, r1, r2, r3, r4, r5, r6, r7, r8, r9, r10, r11⟩, l1, m1, m2⟩ := T0.facts)
  gi_wp2_with (gi_at_call 13; refine ((callsIn_wide (n := _)).2 (K9.out _)).mono ?_; rintro e wL ⟨rfl, hb⟩; replace T0 := T0.step hb; replace C0 := C0.below hb C0.lt; replace C1 := C1.below hb C1.lt; replace H6 := below_then H6 hb; have c0 := (Blk.cell C0 0).trans (show _ = some (.int .i64 0 : Value) from rfl); have c1 := (Blk.cell C0 1).trans (show _ = some (.int .i64 0 : Value) from rfl); have c2 := (Blk.cell C0 2).trans (show _ = some (.int .i64 0 : Value) from rfl); have c3 := (Blk.cell C0 3).trans (show _ = some (.int .i64 0 : Value) from rfl); have cL := Blk.lt C0; have d0 := (Blk.cell C1 0).trans (show _ = some (.int .i64 0 : Value) from rfl); have d1 := (Blk.cell C1 1).trans (show _ = some (.int .i64 0 : Value) from rfl); have d2 := (Blk.cell C1 2).trans (show _ = some (.int .i64 0 : Value) from rfl); have d3 := (Blk.cell C1 3).trans (show _ = some (.int .i64 0 : Value) from rfl); have dL := Blk.lt C1; clear r0 r1 r2 r3 r4 r5 r6 r7 r8 r9 r10 r11 l1 m1 m2; obtain ⟨⟨r0, r1, r2, r3, r4, r5, r6, r7, r8, r9, r10, r11⟩, l1, m1, m2⟩ := T0.facts)
  have B26 := Blk.new wL 3 #[.int .i64 0]
  replace T0 := T0.more (.cells #[.int .i64 0] 3)
  have h6b : w6.heap.size ≤ wL.heap.size := H6.size
  replace H6 := H6.alloc H6.size (.cells #[.int .i64 0] 3)
  have hbW : wL.heap.size < (wL.alloc (.cells #[.int .i64 0] 3)).heap.size := by simp
  generalize (wL.alloc (.cells #[.int .i64 0] 3)) = W0 at *
  generalize wL.heap.size = b26 at *
  clear C0 C1 c0 c1 c2 c3 d0 d1 d2 d3 cL dL
  refine rf_named fun A0 hA0 => ?_
  refine wpIn_rangeFunc_ownH rfl (by decide) (gf := 20) (lb := #[.pointer (some ⟨nA, 0, none⟩), .pointer (some ⟨nD, 0, none⟩), .pointer (some ⟨nG, 0, none⟩)]) (by rw [hA0]; rfl) trivial (enters_of Tryz.func20 (by kernel_rfl) rfl)
    (RS.out nA nD nG w6.heap.size w6 zG (Nat.le_refl _) zA zD cA cD gB) belowK_t (belowK_b (show w6.heap.size ≤ W0.heap.size by omega)) H6 (fun _ => rfl)
    (fun pre W => (((GL w G lv W ∧ Blk W b26 3 #[.int .i64 (pre.length : Nat)]) ∧ pre.map (·.1) = List.range pre.length) ∧ Below w6.heap.size w6 W))
    (fun c pre W => (c = .exit 2 ∧ ((GL w G lv W ∧ Blk W b26 3 #[.int .i64 (pre.length : Nat)]) ∧ (pre.length : Int) = lv) ∧ Below w6.heap.size w6 W) ∨ (c = .ret ∧ ¬ pre.map (·.1) = List.range pre.length))
    (OwnFrom.and (OwnFrom.and (OwnFrom.and (gl_own _ w G lv (by omega)) (blk_own _ _ _ (fun pre : List TK => #[.int .i64 (pre.length : Nat)]))) (ownFrom_pure _ _)) (ownFrom_below (Nat.le_refl _) (by omega))) (fun c s X Y row hs hg hr => by rcases hs with ⟨h0, ⟨⟨h1, h2⟩, h3⟩, h4⟩ | h; exact Or.inl ⟨h0, ⟨⟨gl_own _ w G lv (by omega) () X Y row h1 hg hr, blk_kept h2 hg hr⟩, h3⟩, ownFrom_below (β := Unit) (Nat.le_refl _) (by omega) () X Y row h4 hg hr⟩; exact Or.inr h) ⟨⟨⟨T0, B26⟩, rfl⟩, H6⟩
    (fun x a' W => ∃ b28 : Nat, b26 + 1 ≤ b28 ∧ Blk W b28 37 #[.int .i64 (G.rX (x.1 : Nat)), .int .i64 (G.rY (x.1 : Nat)), .int .i64 (G.rA (x.1 : Nat)), .int .i64 (G.rD (x.1 : Nat))] ∧ a' = (fun b => Act.mk ((((A0.tmps.setIfInBounds 171 (.int .i64 (x.1 : Nat))).setIfInBounds 172 (.agg #[.int .i64 (G.rX (x.1 : Nat)), .int .i64 (G.rY (x.1 : Nat)), .int .i64 (G.rA (x.1 : Nat)), .int .i64 (G.rD (x.1 : Nat))])).setIfInBounds 27 (.int .i64 (x.1 : Nat))).setIfInBounds 28 (.pointer (some ⟨b, 0, none⟩))) []) b28)
    (fun x a' => blk_ex_own _ _ _ _ _ a') ?assign ?body ?done ?stop
  case assign =>
    rintro l pre x W K ⟨⟨⟨T1, B1⟩, hp⟩, h6⟩ hK
    subst hA0
    have hbl := B1.lt
    gi_wp2
    refine hK _ _ ((KeepsOthers.alloc _ _).from _) ((Below.refl _ W).alloc (by omega) _) ⟨⟨⟨T1.more _, B1.alloc _⟩, hp⟩, h6.alloc h6.size _⟩ ⟨W.heap.size, by omega, Blk.new W _ _, ?_⟩
    rfl
  case body =>
    rintro l pre x a' W hl hr ⟨⟨⟨T1, B1⟩, hp⟩, h6⟩ ⟨b28, hb28, C1, rfl⟩ hlt
    subst hA0
    clear r0 r1 r2 r3 r4 r5 r6 r7 r8 r9 r10 r11 l1 m1 m2
    obtain ⟨xv, hxv⟩ := x
    obtain ⟨k, hk⟩ : ∃ k, k = pre.length := ⟨_, rfl⟩
    have HK := Lib.hid hk
    rw [← hk] at B1 hlt
    have HP := Lib.hid hp
    have hWs : w6.heap.size ≤ W.heap.size := h6.size
    have KRk := Lib.hid (KR.out k hlt)
    obtain ⟨⟨r0, r1, r2, r3, r4, r5, r6, r7, r8, r9, r10, r11⟩, l1, m1, m2⟩ := T1.facts
    have e1 := (Blk.cell B1 0).trans (show _ = some (.int .i64 (k : Nat) : Value) from rfl)
    have e2 := Blk.frozen B1 0
    have e3 := Blk.lt B1
    have g0 := (Blk.cell C1 0).trans (show _ = some (.int .i64 (G.rX (xv : Nat)) : Value) from rfl)
    have g1 := (Blk.cell C1 1).trans (show _ = some (.int .i64 (G.rY (xv : Nat)) : Value) from rfl)
    have g2 := (Blk.cell C1 2).trans (show _ = some (.int .i64 (G.rA (xv : Nat)) : Value) from rfl)
    have g3 := (Blk.cell C1 3).trans (show _ = some (.int .i64 (G.rD (xv : Nat)) : Value) from rfl)
    have g4 := Blk.lt C1
    clear hk hp
    have hk6 : k < 65536 := by omega
    have n1 : ¬ b26 = w.heap.size + 1 := by omega
    have n2 : ¬ w.heap.size + 1 = b26 := by omega
    have n3 : ¬ b26 = w.heap.size := by omega
    have n4 : ¬ w.heap.size = b26 := by omega
    have n5 : ¬ b26 = w.heap.size + 1 + 1 := by omega
    have n6 : ¬ w.heap.size + 1 + 1 = b26 := by omega
    by_cases hx : xv = k
    · subst hx
      by_cases hlv : (xv : Int) + 1 = lv
      · have q1 : ((xv : Int) + 1 == lv) = true := beq_iff_eq.2 hlv
        have HLV := Lib.hid hlv
        clear hlv
        gi_wp2_with (gi_at_call 12; refine (CallsIn.inRound l ((callsIn_wide (n := _)).2 (KRk.out _))).mono ?_; rintro e w2 ⟨rfl, hb⟩; replace T1 := T1.step hb; replace B1 := Blk.below B1 hb (Blk.lt B1); replace C1 := Blk.below C1 hb (Blk.lt C1); have HBW := hb; clear hb e1 e2 e3 g0 g1 g2 g3 g4; clear r0 r1 r2 r3 r4 r5 r6 r7 r8 r9 r10 r11 l1 m1 m2; obtain ⟨⟨r0, r1, r2, r3, r4, r5, r6, r7, r8, r9, r10, r11⟩, l1, m1, m2⟩ := T1.facts; have e1 := (Blk.cell B1 0).trans (show _ = some (.int .i64 (xv : Nat) : Value) from rfl); have e2 := Blk.frozen B1 0; have e3 := Blk.lt B1; have g0 := (Blk.cell C1 0).trans (show _ = some (.int .i64 (G.rX (xv : Nat)) : Value) from rfl); have g1 := (Blk.cell C1 1).trans (show _ = some (.int .i64 (G.rY (xv : Nat)) : Value) from rfl); have g2 := (Blk.cell C1 2).trans (show _ = some (.int .i64 (G.rA (xv : Nat)) : Value) from rfl); have g3 := (Blk.cell C1 3).trans (show _ = some (.int .i64 (G.rD (xv : Nat)) : Value) from rfl); have g4 := Blk.lt C1; have L2 := (GL.set T1 (p := ⟨b26, 0, none⟩) (show w.heap.size + 2 < b26 by omega) (.int .i64 ((xv : Int) + 1))).more (.cells #[.int .i64 (G.rX (xv : Nat)), .int .i64 (G.rY (xv : Nat)), .int .i64 (G.rA (xv : Nat)), .int .i64 (G.rD (xv : Nat))] 37); have l2 := L2.facts.2.1)
        have HM := map_snoc (x := (⟨xv, hxv⟩ : TK)) (HP.out.trans (by rw [← HK.out])) rfl
        exact ⟨((keeps_below HBW).trans ((KeepsOthers.setCell _ _ _).from _)).trans ((KeepsOthers.alloc _ _).from _), Or.inl ⟨rfl, ⟨⟨L2, (show Blk _ b26 3 #[.int .i64 ((pre ++ [(⟨xv, hxv⟩ : TK)]).length : Nat)] from by rw [show (((pre ++ [(⟨xv, hxv⟩ : TK)]).length : Nat) : Int) = (xv : Int) + 1 from by rw [List.length_append, ← HK.out]; rfl]; exact (Blk.set_ B1 0 _).alloc _)⟩, by rw [← HLV.out, List.length_append, ← HK.out]; rfl⟩, h6.trans (((HBW.mono hWs).setCell (p := ⟨b26, 0, none⟩) h6b _).alloc (by simp; exact Nat.le_trans hWs HBW.size) _)⟩⟩
      · have q1 : ((xv : Int) + 1 == lv) = false := beq_eq_false_iff_ne.2 hlv
        gi_wp2_with (gi_at_call 12; refine (CallsIn.inRound l ((callsIn_wide (n := _)).2 (KRk.out _))).mono ?_; rintro e w2 ⟨rfl, hb⟩; replace T1 := T1.step hb; replace B1 := Blk.below B1 hb (Blk.lt B1); replace C1 := Blk.below C1 hb (Blk.lt C1); have HBW := hb; clear hb e1 e2 e3 g0 g1 g2 g3 g4; clear r0 r1 r2 r3 r4 r5 r6 r7 r8 r9 r10 r11 l1 m1 m2; obtain ⟨⟨r0, r1, r2, r3, r4, r5, r6, r7, r8, r9, r10, r11⟩, l1, m1, m2⟩ := T1.facts; have e1 := (Blk.cell B1 0).trans (show _ = some (.int .i64 (xv : Nat) : Value) from rfl); have e2 := Blk.frozen B1 0; have e3 := Blk.lt B1; have g0 := (Blk.cell C1 0).trans (show _ = some (.int .i64 (G.rX (xv : Nat)) : Value) from rfl); have g1 := (Blk.cell C1 1).trans (show _ = some (.int .i64 (G.rY (xv : Nat)) : Value) from rfl); have g2 := (Blk.cell C1 2).trans (show _ = some (.int .i64 (G.rA (xv : Nat)) : Value) from rfl); have g3 := (Blk.cell C1 3).trans (show _ = some (.int .i64 (G.rD (xv : Nat)) : Value) from rfl); have g4 := Blk.lt C1; have L2 := (GL.set T1 (p := ⟨b26, 0, none⟩) (show w.heap.size + 2 < b26 by omega) (.int .i64 ((xv : Int) + 1))).more (.cells #[.int .i64 (G.rX (xv : Nat)), .int .i64 (G.rY (xv : Nat)), .int .i64 (G.rA (xv : Nat)), .int .i64 (G.rD (xv : Nat))] 37); have l2 := L2.facts.2.1)
        have HM := map_snoc (x := (⟨xv, hxv⟩ : TK)) (HP.out.trans (by rw [← HK.out])) rfl
        exact ⟨((keeps_below HBW).trans ((KeepsOthers.setCell _ _ _).from _)).trans ((KeepsOthers.alloc _ _).from _), ((HBW.mono hWs).setCell (p := ⟨b26, 0, none⟩) h6b _).alloc (by simp; exact Nat.le_trans hWs HBW.size) _, ⟨⟨L2, (show Blk _ b26 3 #[.int .i64 ((pre ++ [(⟨xv, hxv⟩ : TK)]).length : Nat)] from by rw [show (((pre ++ [(⟨xv, hxv⟩ : TK)]).length : Nat) : Int) = (xv : Int) + 1 from by rw [List.length_append, ← HK.out]; rfl]; exact (Blk.set_ B1 0 _).alloc _)⟩, by rw [HM, List.length_append, ← HK.out]; rfl⟩, h6.trans (((HBW.mono hWs).setCell (p := ⟨b26, 0, none⟩) h6b _).alloc (by simp; exact Nat.le_trans hWs HBW.size) _)⟩
    · have hx2 : ¬ (xv : Int) = (k : Int) := by omega
      have q1 : ((xv : Int) == (k : Int)) = false := beq_eq_false_iff_ne.2 hx2
      have q2 : ((xv : Int) != (k : Int)) = true := by rw [bne, q1]; rfl
      gi_wp2_with (gi_at_call 12; refine (CallsIn.inRound l ((callsIn_wide (n := _)).2 (KRk.out _))).mono ?_; rintro e w2 ⟨rfl, hb⟩; replace T1 := T1.step hb; replace B1 := Blk.below B1 hb (Blk.lt B1); replace C1 := Blk.below C1 hb (Blk.lt C1); have HBW := hb; clear hb e1 e2 e3 g0 g1 g2 g3 g4; clear r0 r1 r2 r3 r4 r5 r6 r7 r8 r9 r10 r11 l1 m1 m2; obtain ⟨⟨r0, r1, r2, r3, r4, r5, r6, r7, r8, r9, r10, r11⟩, l1, m1, m2⟩ := T1.facts; have e1 := (Blk.cell B1 0).trans (show _ = some (.int .i64 (k : Nat) : Value) from rfl); have e2 := Blk.frozen B1 0; have e3 := Blk.lt B1; have g0 := (Blk.cell C1 0).trans (show _ = some (.int .i64 (G.rX (xv : Nat)) : Value) from rfl); have g1 := (Blk.cell C1 1).trans (show _ = some (.int .i64 (G.rY (xv : Nat)) : Value) from rfl); have g2 := (Blk.cell C1 2).trans (show _ = some (.int .i64 (G.rA (xv : Nat)) : Value) from rfl); have g3 := (Blk.cell C1 3).trans (show _ = some (.int .i64 (G.rD (xv : Nat)) : Value) from rfl); have g4 := Blk.lt C1)
      exact ⟨(keeps_below HBW).trans ((((KeepsOthers.setCell _ _ _).from _)).trans ((KeepsOthers.alloc _ _).from _)), Or.inr ⟨rfl, fun c => hx (by have := map_last c; rw [← HK.out] at this; exact this)⟩⟩
  case stop =>
    rintro D c pre W hD hsp h hK
    rcases h with ⟨rfl, ⟨⟨T1, B1⟩, hl⟩, h6⟩ | ⟨rfl, hn⟩
    · obtain ⟨i, hi⟩ : ∃ i, i = pre.length := ⟨_, rfl⟩
      rw [← hi] at B1 hl
      clear hi hsp
      clear r0 r1 r2 r3 r4 r5 r6 r7 r8 r9 r10 r11 l1 m1 m2
      subst hA0
      have q1 : ((i : Int) == lv) = true := beq_iff_eq.2 hl
      have q2 : ((i : Int) != lv) = false := by rw [bne, q1]; rfl
      clear hl
      obtain ⟨⟨r0, r1, r2, r3, r4, r5, r6, r7, r8, r9, r10, r11⟩, l1, m1, m2⟩ := T1.facts
      have e1 := (Blk.cell B1 0).trans (show _ = some (.int .i64 (i : Nat) : Value) from rfl)
      have e2 := Blk.frozen B1 0
      have e3 := Blk.lt B1
      have n1 : ¬ b26 = w.heap.size + 1 := by omega
      have n2 : ¬ w.heap.size + 1 = b26 := by omega
      have n3 : ¬ b26 = w.heap.size := by omega
      have n4 : ¬ w.heap.size = b26 := by omega
      have n5 : ¬ b26 = w.heap.size + 1 + 1 := by omega
      have n6 : ¬ w.heap.size + 1 + 1 = b26 := by omega
      gi_wp2_with fail
      have hDW : D < W.heap.size := (Array.getElem?_eq_some_iff.1 hK).1
      have neD : D ≠ b26 := by omega
      replace T0 := GL.set T1 (p := ⟨b26, 0, none⟩) (show w.heap.size + 2 < b26 by omega) (.int .i64 0)
      replace B26 : Blk (W.setCell ⟨b26, 0, none⟩ (.int .i64 0)) b26 3 #[.int .i64 0] := Blk.set_ B1 0 (.int .i64 0)
      replace H6 := h6.setCell (p := ⟨b26, 0, none⟩) h6b (.int .i64 0)
      have HD := (Below.heap_setCell W ⟨b26, 0, none⟩ (.int .i64 0) D neD).trans hK
      have hbW3 : b26 < (W.setCell ⟨b26, 0, none⟩ (.int .i64 0)).heap.size := B26.lt
      have hDW3 : D < (W.setCell ⟨b26, 0, none⟩ (.int .i64 0)).heap.size := (Array.getElem?_eq_some_iff.1 HD).1
      have h63 := H6.size
      clear r0 r1 r2 r3 r4 r5 r6 r7 r8 r9 r10 r11 l1 m1 m2 e1 e2 e3 T1 B1 h6
      generalize (W.setCell ⟨b26, 0, none⟩ (.int .i64 0)) = W3 at *
      refine rf_named fun A0 hA0 => ?_
      refine wpIn_rangeFunc_ownH rfl (by decide) (gf := 20) (lb := #[.pointer (some ⟨nA, 0, none⟩), .pointer (some ⟨nD, 0, none⟩), .pointer (some ⟨nG, 0, none⟩)]) (by rw [hA0]; rfl) trivial (enters_of Tryz.func20 (by kernel_rfl) rfl)
        (RS.out nA nD nG w6.heap.size w6 zG (Nat.le_refl _) zA zD cA cD gB) belowK_t (belowK_b (show w6.heap.size ≤ W3.heap.size by omega)) H6 (fun _ => rfl)
        (fun pre W => (((GL w G lv W ∧ Blk W b26 3 #[.int .i64 (pre.length : Nat)]) ∧ pre.map (·.1) = List.range pre.length) ∧ Below w6.heap.size w6 W) ∧ W.heap[D]? = some (.deferred (some [])))
        (fun c pre W => c = .ret ∧ (¬ pre.map (·.1) = List.range pre.length ∨ ((Below w.heap.size w W ∧ Blk W (w.heap.size + 2) 4 #[.bool true]) ∧ W.heap[D]? = some (.deferred (some [])))))
        (OwnFrom.and (OwnFrom.and (OwnFrom.and (OwnFrom.and (gl_own _ w G lv (by omega)) (blk_own _ _ _ (fun pre : List TK => #[.int .i64 (pre.length : Nat)]))) (ownFrom_pure _ _)) (ownFrom_below (Nat.le_refl _) (by omega))) (heap_own (by omega))) (fun c s X Y row hs hg hr => by obtain ⟨h0, h | ⟨⟨h1, h2⟩, h3⟩⟩ := hs; exact ⟨h0, Or.inl h⟩; exact ⟨h0, Or.inr ⟨⟨ownFrom_below (β := Unit) (Nat.le_refl _) (by omega) () X Y row h1 hg hr, blk_kept h2 hg hr⟩, heap_own (β := Unit) (B := W3.heap.size) (by omega) () X Y row h3 hg hr⟩⟩) ⟨⟨⟨⟨T0, B26⟩, rfl⟩, H6⟩, HD⟩
        (fun x a' W => ∃ b28 : Nat, b26 + 1 ≤ b28 ∧ Blk W b28 37 #[.int .i64 (G.rX (x.1 : Nat)), .int .i64 (G.rY (x.1 : Nat)), .int .i64 (G.rA (x.1 : Nat)), .int .i64 (G.rD (x.1 : Nat))] ∧ a' = (fun b => Act.mk ((((A0.tmps.setIfInBounds 203 (.int .i64 (x.1 : Nat))).setIfInBounds 204 (.agg #[.int .i64 (G.rX (x.1 : Nat)), .int .i64 (G.rY (x.1 : Nat)), .int .i64 (G.rA (x.1 : Nat)), .int .i64 (G.rD (x.1 : Nat))])).setIfInBounds 31 (.int .i64 (x.1 : Nat))).setIfInBounds 32 (.pointer (some ⟨b, 0, none⟩))) []) b28)
        (fun x a' => blk_ex_own _ _ _ _ _ a') ?assign3 ?body3 ?done3 ?stop3
      case assign3 =>
        rintro l pre x W K ⟨⟨⟨⟨T1, B1⟩, hp⟩, h6⟩, hd⟩ hK
        subst hA0
        have hbl := B1.lt
        gi_wp2
        refine hK _ _ ((KeepsOthers.alloc _ _).from _) ((Below.refl _ W).alloc (by omega) _) ⟨⟨⟨⟨T1.more _, B1.alloc _⟩, hp⟩, h6.alloc h6.size _⟩, (Below.heap_alloc W _ _ (Array.getElem?_eq_some_iff.1 hd).1).trans hd⟩ ⟨W.heap.size, by omega, Blk.new W _ _, ?_⟩
        rfl
      case body3 =>
        rintro l pre x a' W hl hr ⟨⟨⟨⟨T1, B1⟩, hp⟩, h6⟩, hd⟩ ⟨b28, hb28, C1, rfl⟩ hlt
        subst hA0
        obtain ⟨xv, hxv⟩ := x
        obtain ⟨k, hk⟩ : ∃ k, k = pre.length := ⟨_, rfl⟩
        have HK := Lib.hid hk
        rw [← hk] at B1 hlt
        have HP := Lib.hid hp
        have hWs : w6.heap.size ≤ W.heap.size := h6.size
        have hDW : D < W.heap.size := (Array.getElem?_eq_some_iff.1 hd).1
        have neD : D ≠ b26 := by omega
        have KRk := Lib.hid (KR.out k hlt)
        obtain ⟨⟨r0, r1, r2, r3, r4, r5, r6, r7, r8, r9, r10, r11⟩, l1, m1, m2⟩ := T1.facts
        have e1 := (Blk.cell B1 0).trans (show _ = some (.int .i64 (k : Nat) : Value) from rfl)
        have e2 := Blk.frozen B1 0
        have e3 := Blk.lt B1
        have g0 := (Blk.cell C1 0).trans (show _ = some (.int .i64 (G.rX (xv : Nat)) : Value) from rfl)
        have g1 := (Blk.cell C1 1).trans (show _ = some (.int .i64 (G.rY (xv : Nat)) : Value) from rfl)
        have g2 := (Blk.cell C1 2).trans (show _ = some (.int .i64 (G.rA (xv : Nat)) : Value) from rfl)
        have g3 := (Blk.cell C1 3).trans (show _ = some (.int .i64 (G.rD (xv : Nat)) : Value) from rfl)
        have g4 := Blk.lt C1
        clear hk hp
        have hk6 : k < 65536 := by omega
        have n1 : ¬ b26 = w.heap.size + 1 := by omega
        have n2 : ¬ w.heap.size + 1 = b26 := by omega
        have n3 : ¬ b26 = w.heap.size := by omega
        have n4 : ¬ w.heap.size = b26 := by omega
        have n5 : ¬ b26 = w.heap.size + 1 + 1 := by omega
        have n6 : ¬ w.heap.size + 1 + 1 = b26 := by omega
        by_cases hx : xv = k
        · subst hx
          by_cases hlv : 3000 < (xv : Int) + 1
          · gi_wp2_with (gi_at_call 12; refine (CallsIn.inRound l ((callsIn_wide (n := _)).2 (KRk.out _))).mono ?_; rintro e w2 ⟨rfl, hb⟩; replace T1 := T1.step hb; replace B1 := Blk.below B1 hb (Blk.lt B1); replace C1 := Blk.below C1 hb (Blk.lt C1); have HBW := hb; clear hb e1 e2 e3 g0 g1 g2 g3 g4; clear r0 r1 r2 r3 r4 r5 r6 r7 r8 r9 r10 r11 l1 m1 m2; obtain ⟨⟨r0, r1, r2, r3, r4, r5, r6, r7, r8, r9, r10, r11⟩, l1, m1, m2⟩ := T1.facts; have e1 := (Blk.cell B1 0).trans (show _ = some (.int .i64 (xv : Nat) : Value) from rfl); have e2 := Blk.frozen B1 0; have e3 := Blk.lt B1; have g0 := (Blk.cell C1 0).trans (show _ = some (.int .i64 (G.rX (xv : Nat)) : Value) from rfl); have g1 := (Blk.cell C1 1).trans (show _ = some (.int .i64 (G.rY (xv : Nat)) : Value) from rfl); have g2 := (Blk.cell C1 2).trans (show _ = some (.int .i64 (G.rA (xv : Nat)) : Value) from rfl); have g3 := (Blk.cell C1 3).trans (show _ = some (.int .i64 (G.rD (xv : Nat)) : Value) from rfl); have g4 := Blk.lt C1; have L2 := (GL.set T1 (p := ⟨b26, 0, none⟩) (show w.heap.size + 2 < b26 by omega) (.int .i64 ((xv : Int) + 1))).more (.cells #[.int .i64 (G.rX (xv : Nat)), .int .i64 (G.rY (xv : Nat)), .int .i64 (G.rA (xv : Nat)), .int .i64 (G.rD (xv : Nat))] 37); have l2 := L2.facts.2.1)
            have HD4 := (show ((w2.setCell ⟨b26, 0, none⟩ (.int .i64 ((xv : Int) + 1))).alloc (.cells #[.int .i64 (G.rX (xv : Nat)), .int .i64 (G.rY (xv : Nat)), .int .i64 (G.rA (xv : Nat)), .int .i64 (G.rD (xv : Nat))] 37)).heap[D]? = some (.deferred (some [])) from ((Below.heap_alloc _ _ D (by simp; exact Nat.lt_of_lt_of_le hDW HBW.size)).trans ((Below.heap_setCell _ ⟨b26, 0, none⟩ _ D neD).trans ((HBW.block D hDW).trans hd))))
            have hD4 := (Array.getElem?_eq_some_iff.1 HD4).1
            clear r0 r1 r2 r3 r4 r5 r6 r7 r8 r9 r10 r11 l1 m1 m2
            clear e1 e2 e3 g0 g1 g2 g3 g4 l2
            obtain ⟨⟨r0, r1, r2, r3, r4, r5, r6, r7, r8, r9, r10, r11⟩, l1, m1, m2⟩ := L2.facts
            gi_wp2_with (gi_at_call 10; refine (CallsIn.inRound l ((callsIn_wide (n := _)).2 (lives25_c _ (HG.out.below L2.low (Nat.le_refl _))))).mono ?_; rintro e w9 ⟨rfl, hb⟩; replace L2 := L2.step hb; have HD5 := (hb.block D hD4).trans HD4; have HB9 := hb; clear hb; clear r0 r1 r2 r3 r4 r5 r6 r7 r8 r9 r10 r11 l1 m1 m2; obtain ⟨⟨r0, r1, r2, r3, r4, r5, r6, r7, r8, r9, r10, r11⟩, l1, m1, m2⟩ := L2.facts)
            exact ⟨((((keeps_below HBW).trans ((KeepsOthers.setCell _ _ _).from _)).trans ((KeepsOthers.alloc _ _).from _)).trans (keeps_below HB9)).trans ((KeepsOthers.setCell _ _ _).from _), rfl, Or.inr ⟨⟨L2.low.setCell (p := ⟨w.heap.size + 2, 0, none⟩) (by show w.heap.size ≤ w.heap.size + 2; omega) _, Blk.set_ L2.b10 0 _⟩, (Below.heap_setCell w9 ⟨w.heap.size + 2, 0, none⟩ (.bool true) D (by show D ≠ w.heap.size + 2; omega)).trans HD5⟩⟩
          · gi_wp2_with (gi_at_call 12; refine (CallsIn.inRound l ((callsIn_wide (n := _)).2 (KRk.out _))).mono ?_; rintro e w2 ⟨rfl, hb⟩; replace T1 := T1.step hb; replace B1 := Blk.below B1 hb (Blk.lt B1); replace C1 := Blk.below C1 hb (Blk.lt C1); have HBW := hb; clear hb e1 e2 e3 g0 g1 g2 g3 g4; clear r0 r1 r2 r3 r4 r5 r6 r7 r8 r9 r10 r11 l1 m1 m2; obtain ⟨⟨r0, r1, r2, r3, r4, r5, r6, r7, r8, r9, r10, r11⟩, l1, m1, m2⟩ := T1.facts; have e1 := (Blk.cell B1 0).trans (show _ = some (.int .i64 (xv : Nat) : Value) from rfl); have e2 := Blk.frozen B1 0; have e3 := Blk.lt B1; have g0 := (Blk.cell C1 0).trans (show _ = some (.int .i64 (G.rX (xv : Nat)) : Value) from rfl); have g1 := (Blk.cell C1 1).trans (show _ = some (.int .i64 (G.rY (xv : Nat)) : Value) from rfl); have g2 := (Blk.cell C1 2).trans (show _ = some (.int .i64 (G.rA (xv : Nat)) : Value) from rfl); have g3 := (Blk.cell C1 3).trans (show _ = some (.int .i64 (G.rD (xv : Nat)) : Value) from rfl); have g4 := Blk.lt C1; have L2 := (GL.set T1 (p := ⟨b26, 0, none⟩) (show w.heap.size + 2 < b26 by omega) (.int .i64 ((xv : Int) + 1))).more (.cells #[.int .i64 (G.rX (xv : Nat)), .int .i64 (G.rY (xv : Nat)), .int .i64 (G.rA (xv : Nat)), .int .i64 (G.rD (xv : Nat))] 37); have l2 := L2.facts.2.1)
            have HM := map_snoc (x := (⟨xv, hxv⟩ : TK)) (HP.out.trans (by rw [← HK.out])) rfl
            exact ⟨((keeps_below HBW).trans ((KeepsOthers.setCell _ _ _).from _)).trans ((KeepsOthers.alloc _ _).from _), ((HBW.mono hWs).setCell (p := ⟨b26, 0, none⟩) h6b _).alloc (by simp; exact Nat.le_trans hWs HBW.size) _, ⟨⟨⟨L2, (show Blk _ b26 3 #[.int .i64 ((pre ++ [(⟨xv, hxv⟩ : TK)]).length : Nat)] from by rw [show (((pre ++ [(⟨xv, hxv⟩ : TK)]).length : Nat) : Int) = (xv : Int) + 1 from by rw [List.length_append, ← HK.out]; rfl]; exact (Blk.set_ B1 0 _).alloc _)⟩, by rw [HM, List.length_append, ← HK.out]; rfl⟩, h6.trans (((HBW.mono hWs).setCell (p := ⟨b26, 0, none⟩) h6b _).alloc (by simp; exact Nat.le_trans hWs HBW.size) _)⟩, ((Below.heap_alloc _ _ D (by simp; exact Nat.lt_of_lt_of_le hDW HBW.size)).trans ((Below.heap_setCell _ ⟨b26, 0, none⟩ _ D neD).trans ((HBW.block D hDW).trans hd)))⟩
        · have hx2 : ¬ (xv : Int) = (k : Int) := by omega
          have q1 : ((xv : Int) == (k : Int)) = false := beq_eq_false_iff_ne.2 hx2
          have q2 : ((xv : Int) != (k : Int)) = true := by rw [bne, q1]; rfl
          gi_wp2_with (gi_at_call 12; refine (CallsIn.inRound l ((callsIn_wide (n := _)).2 (KRk.out _))).mono ?_; rintro e w2 ⟨rfl, hb⟩; replace T1 := T1.step hb; replace B1 := Blk.below B1 hb (Blk.lt B1); replace C1 := Blk.below C1 hb (Blk.lt C1); have HBW := hb; clear hb e1 e2 e3 g0 g1 g2 g3 g4; clear r0 r1 r2 r3 r4 r5 r6 r7 r8 r9 r10 r11 l1 m1 m2; obtain ⟨⟨r0, r1, r2, r3, r4, r5, r6, r7, r8, r9, r10, r11⟩, l1, m1, m2⟩ := T1.facts; have e1 := (Blk.cell B1 0).trans (show _ = some (.int .i64 (k : Nat) : Value) from rfl); have e2 := Blk.frozen B1 0; have e3 := Blk.lt B1; have g0 := (Blk.cell C1 0).trans (show _ = some (.int .i64 (G.rX (xv : Nat)) : Value) from rfl); have g1 := (Blk.cell C1 1).trans (show _ = some (.int .i64 (G.rY (xv : Nat)) : Value) from rfl); have g2 := (Blk.cell C1 2).trans (show _ = some (.int .i64 (G.rA (xv : Nat)) : Value) from rfl); have g3 := (Blk.cell C1 3).trans (show _ = some (.int .i64 (G.rD (xv : Nat)) : Value) from rfl); have g4 := Blk.lt C1)
          exact ⟨(keeps_below HBW).trans ((((KeepsOthers.setCell _ _ _).from _)).trans ((KeepsOthers.alloc _ _).from _)), rfl, Or.inl fun c => hx (by have := map_last c; rw [← HK.out] at this; exact this)⟩
      case stop3 =>
        rintro D3 c pre W hD3 hsp ⟨rfl, h⟩ hK3
        rcases h with h | ⟨⟨hlow, hB10⟩, hd⟩
        · exact absurd hsp h
        · subst hA0
          clear hsp
          gi_wp2_with fail
          have hDne : D ≠ D3 := by omega
          have hK4 : (W.putObj D3 (.deferred none)).heap[D]? = some (.deferred (some [])) := (World.putObj_heap_other hDne).trans hd
          have B3 : Blk (W.putObj D3 (.deferred none)) (w.heap.size + 2) 4 #[.bool true] := (World.putObj_heap_other (by omega)).trans hB10
          have B4 : Blk ((W.putObj D3 (.deferred none)).putObj D (.deferred none)) (w.heap.size + 2) 4 #[.bool true] := (World.putObj_heap_other (by omega)).trans B3
          have y1 : ((W.putObj D3 (.deferred none)).putObj D (.deferred none)).cell? ⟨w.heap.size + 1 + 1, 0, none⟩ = some (.bool true : Value) := (Blk.cell B4 0).trans rfl
          refine ⟨by simp, .inl ⟨_, _, rfl, run_takeDeferred hK3, ?_⟩⟩
          refine ⟨by simp, .inl ⟨_, _, rfl, run_takeDeferred hK4, ?_⟩⟩
          refine ⟨.bool true, ?_, rfl, (hlow.trans (belowK_b (w := w) (Nat.le_refl _) _ D3 _ _ (by omega) hK3 rfl rfl)).trans (belowK_b (w := w) (Nat.le_refl _) _ D _ _ (by omega) hK4 rfl rfl)⟩
          simp [results, Tryz.results3, go_sem, y1]
      case done3 =>
        rintro D3 xs W hD3 hS ⟨⟨⟨⟨T1, B1⟩, hp⟩, h6⟩, hd⟩ hK3
        rw [map_len hS] at B1
        clear hS hp
        subst hA0
        have q3 : ((N : Int) == (N : Int)) = true := beq_self_eq_true _
        have q4 : ((N : Int) != (N : Int)) = false := by rw [bne, q3]; rfl
        have hD2 : D < W.heap.size := (Array.getElem?_eq_some_iff.1 hd).1
        have hD4 : D3 < W.heap.size := (Array.getElem?_eq_some_iff.1 hK3).1
        obtain ⟨⟨r0, r1, r2, r3, r4, r5, r6, r7, r8, r9, r10, r11⟩, l1, m1, m2⟩ := T1.facts
        have e1 := (Blk.cell B1 0).trans (show _ = some (.int .i64 (N : Nat) : Value) from rfl)
        have e2 := Blk.frozen B1 0
        have e3 := Blk.lt B1
        have n1 : ¬ b26 = w.heap.size + 1 := by omega
        have n2 : ¬ w.heap.size + 1 = b26 := by omega
        have n3 : ¬ b26 = w.heap.size := by omega
        have n4 : ¬ w.heap.size = b26 := by omega
        have n5 : ¬ b26 = w.heap.size + 1 + 1 := by omega
        have n6 : ¬ w.heap.size + 1 + 1 = b26 := by omega
        gi_wp2_with (gi_at_call 10; refine ((callsIn_wide (n := _)).2 (lives25_c _ (HG.out.below T1.low (Nat.le_refl _)))).mono ?_; rintro e w9 ⟨rfl, hb⟩; replace T1 := T1.step hb; replace hK3 := (hb.block D3 hD4).trans hK3; replace hd := (hb.block D hD2).trans hd; clear hb e1 e2 e3; clear r0 r1 r2 r3 r4 r5 r6 r7 r8 r9 r10 r11 l1 m1 m2; obtain ⟨⟨r0, r1, r2, r3, r4, r5, r6, r7, r8, r9, r10, r11⟩, l1, m1, m2⟩ := T1.facts)
        have hK3b := (Below.heap_setCell w9 ⟨w.heap.size + 2, 0, none⟩ (.bool true) D3 (by show D3 ≠ w.heap.size + 2; omega)).trans hK3
        have hdb := (Below.heap_setCell w9 ⟨w.heap.size + 2, 0, none⟩ (.bool true) D (by show D ≠ w.heap.size + 2; omega)).trans hd
        have HL := T1.low.setCell (p := ⟨w.heap.size + 2, 0, none⟩) (by show w.heap.size ≤ w.heap.size + 2; omega) (.bool true)
        have B2 := Blk.set_ T1.b10 0 (.bool true)
        have hDne : D ≠ D3 := by omega
        have hK4 : ((w9.setCell ⟨w.heap.size + 1 + 1, 0, none⟩ (.bool true)).putObj D3 (.deferred none)).heap[D]? = some (.deferred (some [])) := (World.putObj_heap_other hDne).trans hdb
        have B3 : Blk ((w9.setCell ⟨w.heap.size + 1 + 1, 0, none⟩ (.bool true)).putObj D3 (.deferred none)) (w.heap.size + 2) 4 #[.bool true] := (World.putObj_heap_other (by omega)).trans B2
        have B4 : Blk (((w9.setCell ⟨w.heap.size + 1 + 1, 0, none⟩ (.bool true)).putObj D3 (.deferred none)).putObj D (.deferred none)) (w.heap.size + 2) 4 #[.bool true] := (World.putObj_heap_other (by omega)).trans B3
        have y1 : (((w9.setCell ⟨w.heap.size + 1 + 1, 0, none⟩ (.bool true)).putObj D3 (.deferred none)).putObj D (.deferred none)).cell? ⟨w.heap.size + 1 + 1, 0, none⟩ = some (.bool true : Value) := (Blk.cell B4 0).trans rfl
        refine ⟨by simp, .inl ⟨_, _, rfl, run_takeDeferred hK3b, ?_⟩⟩
        refine ⟨by simp, .inl ⟨_, _, rfl, run_takeDeferred hK4, ?_⟩⟩
        refine ⟨.bool true, ?_, rfl, (HL.trans (belowK_b (w := w) (Nat.le_refl _) _ D3 _ _ (by omega) hK3b rfl rfl)).trans (belowK_b (w := w) (Nat.le_refl _) _ D _ _ (by omega) hK4 rfl rfl)⟩
        simp [results, Tryz.results3, go_sem, y1]
    · exact absurd hsp hn
  case done =>
    rintro D xs W hD hS ⟨⟨⟨T1, B1⟩, hp⟩, h6⟩ hK
    rw [map_len hS] at B1
    clear hS hp
    clear r0 r1 r2 r3 r4 r5 r6 r7 r8 r9 r10 r11 l1 m1 m2
    by_cases hlv : (N : Int) = lv
    · subst hA0
      have q1 : ((N : Int) == lv) = true := beq_iff_eq.2 hlv
      have q2 : ((N : Int) != lv) = false := by rw [bne, q1]; rfl
      clear hlv
      obtain ⟨⟨r0, r1, r2, r3, r4, r5, r6, r7, r8, r9, r10, r11⟩, l1, m1, m2⟩ := T1.facts
      have e1 := (Blk.cell B1 0).trans (show _ = some (.int .i64 (N : Nat) : Value) from rfl)
      have e2 := Blk.frozen B1 0
      have e3 := Blk.lt B1
      have n1 : ¬ b26 = w.heap.size + 1 := by omega
      have n2 : ¬ w.heap.size + 1 = b26 := by omega
      have n3 : ¬ b26 = w.heap.size := by omega
      have n4 : ¬ w.heap.size = b26 := by omega
      have n5 : ¬ b26 = w.heap.size + 1 + 1 := by omega
      have n6 : ¬ w.heap.size + 1 + 1 = b26 := by omega
      gi_wp2_with fail
      have hDW : D < W.heap.size := (Array.getElem?_eq_some_iff.1 hK).1
      have neD : D ≠ b26 := by omega
      replace T0 := GL.set T1 (p := ⟨b26, 0, none⟩) (show w.heap.size + 2 < b26 by omega) (.int .i64 0)
      replace B26 : Blk (W.setCell ⟨b26, 0, none⟩ (.int .i64 0)) b26 3 #[.int .i64 0] := Blk.set_ B1 0 (.int .i64 0)
      replace H6 := h6.setCell (p := ⟨b26, 0, none⟩) h6b (.int .i64 0)
      have HD := (Below.heap_setCell W ⟨b26, 0, none⟩ (.int .i64 0) D neD).trans hK
      have hbW3 : b26 < (W.setCell ⟨b26, 0, none⟩ (.int .i64 0)).heap.size := B26.lt
      have hDW3 : D < (W.setCell ⟨b26, 0, none⟩ (.int .i64 0)).heap.size := (Array.getElem?_eq_some_iff.1 HD).1
      have h63 := H6.size
      clear r0 r1 r2 r3 r4 r5 r6 r7 r8 r9 r10 r11 l1 m1 m2 e1 e2 e3 T1 B1 h6
      generalize (W.setCell ⟨b26, 0, none⟩ (.int .i64 0)) = W3 at *
      refine rf_named fun A0 hA0 => ?_
      refine wpIn_rangeFunc_ownH rfl (by decide) (gf := 20) (lb := #[.pointer (some ⟨nA, 0, none⟩), .pointer (some ⟨nD, 0, none⟩), .pointer (some ⟨nG, 0, none⟩)]) (by rw [hA0]; rfl) trivial (enters_of Tryz.func20 (by kernel_rfl) rfl)
        (RS.out nA nD nG w6.heap.size w6 zG (Nat.le_refl _) zA zD cA cD gB) belowK_t (belowK_b (show w6.heap.size ≤ W3.heap.size by omega)) H6 (fun _ => rfl)
        (fun pre W => (((GL w G lv W ∧ Blk W b26 3 #[.int .i64 (pre.length : Nat)]) ∧ pre.map (·.1) = List.range pre.length) ∧ Below w6.heap.size w6 W) ∧ W.heap[D]? = some (.deferred (some [])))
        (fun c pre W => c = .ret ∧ (¬ pre.map (·.1) = List.range pre.length ∨ ((Below w.heap.size w W ∧ Blk W (w.heap.size + 2) 4 #[.bool true]) ∧ W.heap[D]? = some (.deferred (some [])))))
        (OwnFrom.and (OwnFrom.and (OwnFrom.and (OwnFrom.and (gl_own _ w G lv (by omega)) (blk_own _ _ _ (fun pre : List TK => #[.int .i64 (pre.length : Nat)]))) (ownFrom_pure _ _)) (ownFrom_below (Nat.le_refl _) (by omega))) (heap_own (by omega))) (fun c s X Y row hs hg hr => by obtain ⟨h0, h | ⟨⟨h1, h2⟩, h3⟩⟩ := hs; exact ⟨h0, Or.inl h⟩; exact ⟨h0, Or.inr ⟨⟨ownFrom_below (β := Unit) (Nat.le_refl _) (by omega) () X Y row h1 hg hr, blk_kept h2 hg hr⟩, heap_own (β := Unit) (B := W3.heap.size) (by omega) () X Y row h3 hg hr⟩⟩) ⟨⟨⟨⟨T0, B26⟩, rfl⟩, H6⟩, HD⟩
        (fun x a' W => ∃ b28 : Nat, b26 + 1 ≤ b28 ∧ Blk W b28 37 #[.int .i64 (G.rX (x.1 : Nat)), .int .i64 (G.rY (x.1 : Nat)), .int .i64 (G.rA (x.1 : Nat)), .int .i64 (G.rD (x.1 : Nat))] ∧ a' = (fun b => Act.mk ((((A0.tmps.setIfInBounds 203 (.int .i64 (x.1 : Nat))).setIfInBounds 204 (.agg #[.int .i64 (G.rX (x.1 : Nat)), .int .i64 (G.rY (x.1 : Nat)), .int .i64 (G.rA (x.1 : Nat)), .int .i64 (G.rD (x.1 : Nat))])).setIfInBounds 31 (.int .i64 (x.1 : Nat))).setIfInBounds 32 (.pointer (some ⟨b, 0, none⟩))) []) b28)
        (fun x a' => blk_ex_own _ _ _ _ _ a') ?assign3 ?body3 ?done3 ?stop3
      case assign3 =>
        rintro l pre x W K ⟨⟨⟨⟨T1, B1⟩, hp⟩, h6⟩, hd⟩ hK
        subst hA0
        have hbl := B1.lt
        gi_wp2
        refine hK _ _ ((KeepsOthers.alloc _ _).from _) ((Below.refl _ W).alloc (by omega) _) ⟨⟨⟨⟨T1.more _, B1.alloc _⟩, hp⟩, h6.alloc h6.size _⟩, (Below.heap_alloc W _ _ (Array.getElem?_eq_some_iff.1 hd).1).trans hd⟩ ⟨W.heap.size, by omega, Blk.new W _ _, ?_⟩
        rfl
      case body3 =>
        rintro l pre x a' W hl hr ⟨⟨⟨⟨T1, B1⟩, hp⟩, h6⟩, hd⟩ ⟨b28, hb28, C1, rfl⟩ hlt
        subst hA0
        obtain ⟨xv, hxv⟩ := x
        obtain ⟨k, hk⟩ : ∃ k, k = pre.length := ⟨_, rfl⟩
        have HK := Lib.hid hk
        rw [← hk] at B1 hlt
        have HP := Lib.hid hp
        have hWs : w6.heap.size ≤ W.heap.size := h6.size
        have hDW : D < W.heap.size := (Array.getElem?_eq_some_iff.1 hd).1
        have neD : D ≠ b26 := by omega
        have KRk := Lib.hid (KR.out k hlt)
        obtain ⟨⟨r0, r1, r2, r3, r4, r5, r6, r7, r8, r9, r10, r11⟩, l1, m1, m2⟩ := T1.facts
        have e1 := (Blk.cell B1 0).trans (show _ = some (.int .i64 (k : Nat) : Value) from rfl)
        have e2 := Blk.frozen B1 0
        have e3 := Blk.lt B1
        have g0 := (Blk.cell C1 0).trans (show _ = some (.int .i64 (G.rX (xv : Nat)) : Value) from rfl)
        have g1 := (Blk.cell C1 1).trans (show _ = some (.int .i64 (G.rY (xv : Nat)) : Value) from rfl)
        have g2 := (Blk.cell C1 2).trans (show _ = some (.int .i64 (G.rA (xv : Nat)) : Value) from rfl)
        have g3 := (Blk.cell C1 3).trans (show _ = some (.int .i64 (G.rD (xv : Nat)) : Value) from rfl)
        have g4 := Blk.lt C1
        clear hk hp
        have hk6 : k < 65536 := by omega
        have n1 : ¬ b26 = w.heap.size + 1 := by omega
        have n2 : ¬ w.heap.size + 1 = b26 := by omega
        have n3 : ¬ b26 = w.heap.size := by omega
        have n4 : ¬ w.heap.size = b26 := by omega
        have n5 : ¬ b26 = w.heap.size + 1 + 1 := by omega
        have n6 : ¬ w.heap.size + 1 + 1 = b26 := by omega
        by_cases hx : xv = k
        · subst hx
          by_cases hlv : 3000 < (xv : Int) + 1
          · gi_wp2_with (gi_at_call 12; refine (CallsIn.inRound l ((callsIn_wide (n := _)).2 (KRk.out _))).mono ?_; rintro e w2 ⟨rfl, hb⟩; replace T1 := T1.step hb; replace B1 := Blk.below B1 hb (Blk.lt B1); replace C1 := Blk.below C1 hb (Blk.lt C1); have HBW := hb; clear hb e1 e2 e3 g0 g1 g2 g3 g4; clear r0 r1 r2 r3 r4 r5 r6 r7 r8 r9 r10 r11 l1 m1 m2; obtain ⟨⟨r0, r1, r2, r3, r4, r5, r6, r7, r8, r9, r10, r11⟩, l1, m1, m2⟩ := T1.facts; have e1 := (Blk.cell B1 0).trans (show _ = some (.int .i64 (xv : Nat) : Value) from rfl); have e2 := Blk.frozen B1 0; have e3 := Blk.lt B1; have g0 := (Blk.cell C1 0).trans (show _ = some (.int .i64 (G.rX (xv : Nat)) : Value) from rfl); have g1 := (Blk.cell C1 1).trans (show _ = some (.int .i64 (G.rY (xv : Nat)) : Value) from rfl); have g2 := (Blk.cell C1 2).trans (show _ = some (.int .i64 (G.rA (xv : Nat)) : Value) from rfl); have g3 := (Blk.cell C1 3).trans (show _ = some (.int .i64 (G.rD (xv : Nat)) : Value) from rfl); have g4 := Blk.lt C1; have L2 := (GL.set T1 (p := ⟨b26, 0, none⟩) (show w.heap.size + 2 < b26 by omega) (.int .i64 ((xv : Int) + 1))).more (.cells #[.int .i64 (G.rX (xv : Nat)), .int .i64 (G.rY (xv : Nat)), .int .i64 (G.rA (xv : Nat)), .int .i64 (G.rD (xv : Nat))] 37); have l2 := L2.facts.2.1)
            have HD4 := (show ((w2.setCell ⟨b26, 0, none⟩ (.int .i64 ((xv : Int) + 1))).alloc (.cells #[.int .i64 (G.rX (xv : Nat)), .int .i64 (G.rY (xv : Nat)), .int .i64 (G.rA (xv : Nat)), .int .i64 (G.rD (xv : Nat))] 37)).heap[D]? = some (.deferred (some [])) from ((Below.heap_alloc _ _ D (by simp; exact Nat.lt_of_lt_of_le hDW HBW.size)).trans ((Below.heap_setCell _ ⟨b26, 0, none⟩ _ D neD).trans ((HBW.block D hDW).trans hd))))
            have hD4 := (Array.getElem?_eq_some_iff.1 HD4).1
            clear r0 r1 r2 r3 r4 r5 r6 r7 r8 r9 r10 r11 l1 m1 m2
            clear e1 e2 e3 g0 g1 g2 g3 g4 l2
            obtain ⟨⟨r0, r1, r2, r3, r4, r5, r6, r7, r8, r9, r10, r11⟩, l1, m1, m2⟩ := L2.facts
            gi_wp2_with (gi_at_call 10; refine (CallsIn.inRound l ((callsIn_wide (n := _)).2 (lives25_c _ (HG.out.below L2.low (Nat.le_refl _))))).mono ?_; rintro e w9 ⟨rfl, hb⟩; replace L2 := L2.step hb; have HD5 := (hb.block D hD4).trans HD4; have HB9 := hb; clear hb; clear r0 r1 r2 r3 r4 r5 r6 r7 r8 r9 r10 r11 l1 m1 m2; obtain ⟨⟨r0, r1, r2, r3, r4, r5, r6, r7, r8, r9, r10, r11⟩, l1, m1, m2⟩ := L2.facts)
            exact ⟨((((keeps_below HBW).trans ((KeepsOthers.setCell _ _ _).from _)).trans ((KeepsOthers.alloc _ _).from _)).trans (keeps_below HB9)).trans ((KeepsOthers.setCell _ _ _).from _), rfl, Or.inr ⟨⟨L2.low.setCell (p := ⟨w.heap.size + 2, 0, none⟩) (by show w.heap.size ≤ w.heap.size + 2; omega) _, Blk.set_ L2.b10 0 _⟩, (Below.heap_setCell w9 ⟨w.heap.size + 2, 0, none⟩ (.bool true) D (by show D ≠ w.heap.size + 2; omega)).trans HD5⟩⟩
          · gi_wp2_with (gi_at_call 12; refine (CallsIn.inRound l ((callsIn_wide (n := _)).2 (KRk.out _))).mono ?_; rintro e w2 ⟨rfl, hb⟩; replace T1 := T1.step hb; replace B1 := Blk.below B1 hb (Blk.lt B1); replace C1 := Blk.below C1 hb (Blk.lt C1); have HBW := hb; clear hb e1 e2 e3 g0 g1 g2 g3 g4; clear r0 r1 r2 r3 r4 r5 r6 r7 r8 r9 r10 r11 l1 m1 m2; obtain ⟨⟨r0, r1, r2, r3, r4, r5, r6, r7, r8, r9, r10, r11⟩, l1, m1, m2⟩ := T1.facts; have e1 := (Blk.cell B1 0).trans (show _ = some (.int .i64 (xv : Nat) : Value) from rfl); have e2 := Blk.frozen B1 0; have e3 := Blk.lt B1; have g0 := (Blk.cell C1 0).trans (show _ = some (.int .i64 (G.rX (xv : Nat)) : Value) from rfl); have g1 := (Blk.cell C1 1).trans (show _ = some (.int .i64 (G.rY (xv : Nat)) : Value) from rfl); have g2 := (Blk.cell C1 2).trans (show _ = some (.int .i64 (G.rA (xv : Nat)) : Value) from rfl); have g3 := (Blk.cell C1 3).trans (show _ = some (.int .i64 (G.rD (xv : Nat)) : Value) from rfl); have g4 := Blk.lt C1; have L2 := (GL.set T1 (p := ⟨b26, 0, none⟩) (show w.heap.size + 2 < b26 by omega) (.int .i64 ((xv : Int) + 1))).more (.cells #[.int .i64 (G.rX (xv : Nat)), .int .i64 (G.rY (xv : Nat)), .int .i64 (G.rA (xv : Nat)), .int .i64 (G.rD (xv : Nat))] 37); have l2 := L2.facts.2.1)
            have HM := map_snoc (x := (⟨xv, hxv⟩ : TK)) (HP.out.trans (by rw [← HK.out])) rfl
            exact ⟨((keeps_below HBW).trans ((KeepsOthers.setCell _ _ _).from _)).trans ((KeepsOthers.alloc _ _).from _), ((HBW.mono hWs).setCell (p := ⟨b26, 0, none⟩) h6b _).alloc (by simp; exact Nat.le_trans hWs HBW.size) _, ⟨⟨⟨L2, (show Blk _ b26 3 #[.int .i64 ((pre ++ [(⟨xv, hxv⟩ : TK)]).length : Nat)] from by rw [show (((pre ++ [(⟨xv, hxv⟩ : TK)]).length : Nat) : Int) = (xv : Int) + 1 from by rw [List.length_append, ← HK.out]; rfl]; exact (Blk.set_ B1 0 _).alloc _)⟩, by rw [HM, List.length_append, ← HK.out]; rfl⟩, h6.trans (((HBW.mono hWs).setCell (p := ⟨b26, 0, none⟩) h6b _).alloc (by simp; exact Nat.le_trans hWs HBW.size) _)⟩, ((Below.heap_alloc _ _ D (by simp; exact Nat.lt_of_lt_of_le hDW HBW.size)).trans ((Below.heap_setCell _ ⟨b26, 0, none⟩ _ D neD).trans ((HBW.block D hDW).trans hd)))⟩
        · have hx2 : ¬ (xv : Int) = (k : Int) := by omega
          have q1 : ((xv : Int) == (k : Int)) = false := beq_eq_false_iff_ne.2 hx2
          have q2 : ((xv : Int) != (k : Int)) = true := by rw [bne, q1]; rfl
          gi_wp2_with (gi_at_call 12; refine (CallsIn.inRound l ((callsIn_wide (n := _)).2 (KRk.out _))).mono ?_; rintro e w2 ⟨rfl, hb⟩; replace T1 := T1.step hb; replace B1 := Blk.below B1 hb (Blk.lt B1); replace C1 := Blk.below C1 hb (Blk.lt C1); have HBW := hb; clear hb e1 e2 e3 g0 g1 g2 g3 g4; clear r0 r1 r2 r3 r4 r5 r6 r7 r8 r9 r10 r11 l1 m1 m2; obtain ⟨⟨r0, r1, r2, r3, r4, r5, r6, r7, r8, r9, r10, r11⟩, l1, m1, m2⟩ := T1.facts; have e1 := (Blk.cell B1 0).trans (show _ = some (.int .i64 (k : Nat) : Value) from rfl); have e2 := Blk.frozen B1 0; have e3 := Blk.lt B1; have g0 := (Blk.cell C1 0).trans (show _ = some (.int .i64 (G.rX (xv : Nat)) : Value) from rfl); have g1 := (Blk.cell C1 1).trans (show _ = some (.int .i64 (G.rY (xv : Nat)) : Value) from rfl); have g2 := (Blk.cell C1 2).trans (show _ = some (.int .i64 (G.rA (xv : Nat)) : Value) from rfl); have g3 := (Blk.cell C1 3).trans (show _ = some (.int .i64 (G.rD (xv : Nat)) : Value) from rfl); have g4 := Blk.lt C1)
          exact ⟨(keeps_below HBW).trans ((((KeepsOthers.setCell _ _ _).from _)).trans ((KeepsOthers.alloc _ _).from _)), rfl, Or.inl fun c => hx (by have := map_last c; rw [← HK.out] at this; exact this)⟩
      case stop3 =>
        rintro D3 c pre W hD3 hsp ⟨rfl, h⟩ hK3
        rcases h with h | ⟨⟨hlow, hB10⟩, hd⟩
        · exact absurd hsp h
        · subst hA0
          clear hsp
          gi_wp2_with fail
          have hDne : D ≠ D3 := by omega
          have hK4 : (W.putObj D3 (.deferred none)).heap[D]? = some (.deferred (some [])) := (World.putObj_heap_other hDne).trans hd
          have B3 : Blk (W.putObj D3 (.deferred none)) (w.heap.size + 2) 4 #[.bool true] := (World.putObj_heap_other (by omega)).trans hB10
          have B4 : Blk ((W.putObj D3 (.deferred none)).putObj D (.deferred none)) (w.heap.size + 2) 4 #[.bool true] := (World.putObj_heap_other (by omega)).trans B3
          have y1 : ((W.putObj D3 (.deferred none)).putObj D (.deferred none)).cell? ⟨w.heap.size + 1 + 1, 0, none⟩ = some (.bool true : Value) := (Blk.cell B4 0).trans rfl
          refine ⟨by simp, .inl ⟨_, _, rfl, run_takeDeferred hK3, ?_⟩⟩
          refine ⟨by simp, .inl ⟨_, _, rfl, run_takeDeferred hK4, ?_⟩⟩
          refine ⟨.bool true, ?_, rfl, (hlow.trans (belowK_b (w := w) (Nat.le_refl _) _ D3 _ _ (by omega) hK3 rfl rfl)).trans (belowK_b (w := w) (Nat.le_refl _) _ D _ _ (by omega) hK4 rfl rfl)⟩
          simp [results, Tryz.results3, go_sem, y1]
      case done3 =>
        rintro D3 xs W hD3 hS ⟨⟨⟨⟨T1, B1⟩, hp⟩, h6⟩, hd⟩ hK3
        rw [map_len hS] at B1
        clear hS hp
        subst hA0
        have q3 : ((N : Int) == (N : Int)) = true := beq_self_eq_true _
        have q4 : ((N : Int) != (N : Int)) = false := by rw [bne, q3]; rfl
        have hD2 : D < W.heap.size := (Array.getElem?_eq_some_iff.1 hd).1
        have hD4 : D3 < W.heap.size := (Array.getElem?_eq_some_iff.1 hK3).1
        obtain ⟨⟨r0, r1, r2, r3, r4, r5, r6, r7, r8, r9, r10, r11⟩, l1, m1, m2⟩ := T1.facts
        have e1 := (Blk.cell B1 0).trans (show _ = some (.int .i64 (N : Nat) : Value) from rfl)
        have e2 := Blk.frozen B1 0
        have e3 := Blk.lt B1
        have n1 : ¬ b26 = w.heap.size + 1 := by omega
        have n2 : ¬ w.heap.size + 1 = b26 := by omega
        have n3 : ¬ b26 = w.heap.size := by omega
        have n4 : ¬ w.heap.size = b26 := by omega
        have n5 : ¬ b26 = w.heap.size + 1 + 1 := by omega
        have n6 : ¬ w.heap.size + 1 + 1 = b26 := by omega
        gi_wp2_with (gi_at_call 10; refine ((callsIn_wide (n := _)).2 (lives25_c _ (HG.out.below T1.low (Nat.le_refl _)))).mono ?_; rintro e w9 ⟨rfl, hb⟩; replace T1 := T1.step hb; replace hK3 := (hb.block D3 hD4).trans hK3; replace hd := (hb.block D hD2).trans hd; clear hb e1 e2 e3; clear r0 r1 r2 r3 r4 r5 r6 r7 r8 r9 r10 r11 l1 m1 m2; obtain ⟨⟨r0, r1, r2, r3, r4, r5, r6, r7, r8, r9, r10, r11⟩, l1, m1, m2⟩ := T1.facts)
        have hK3b := (Below.heap_setCell w9 ⟨w.heap.size + 2, 0, none⟩ (.bool true) D3 (by show D3 ≠ w.heap.size + 2; omega)).trans hK3
        have hdb := (Below.heap_setCell w9 ⟨w.heap.size + 2, 0, none⟩ (.bool true) D (by show D ≠ w.heap.size + 2; omega)).trans hd
        have HL := T1.low.setCell (p := ⟨w.heap.size + 2, 0, none⟩) (by show w.heap.size ≤ w.heap.size + 2; omega) (.bool true)
        have B2 := Blk.set_ T1.b10 0 (.bool true)
        have hDne : D ≠ D3 := by omega
        have hK4 : ((w9.setCell ⟨w.heap.size + 1 + 1, 0, none⟩ (.bool true)).putObj D3 (.deferred none)).heap[D]? = some (.deferred (some [])) := (World.putObj_heap_other hDne).trans hdb
        have B3 : Blk ((w9.setCell ⟨w.heap.size + 1 + 1, 0, none⟩ (.bool true)).putObj D3 (.deferred none)) (w.heap.size + 2) 4 #[.bool true] := (World.putObj_heap_other (by omega)).trans B2
        have B4 : Blk (((w9.setCell ⟨w.heap.size + 1 + 1, 0, none⟩ (.bool true)).putObj D3 (.deferred none)).putObj D (.deferred none)) (w.heap.size + 2) 4 #[.bool true] := (World.putObj_heap_other (by omega)).trans B3
        have y1 : (((w9.setCell ⟨w.heap.size + 1 + 1, 0, none⟩ (.bool true)).putObj D3 (.deferred none)).putObj D (.deferred none)).cell? ⟨w.heap.size + 1 + 1, 0, none⟩ = some (.bool true : Value) := (Blk.cell B4 0).trans rfl
        refine ⟨by simp, .inl ⟨_, _, rfl, run_takeDeferred hK3b, ?_⟩⟩
        refine ⟨by simp, .inl ⟨_, _, rfl, run_takeDeferred hK4, ?_⟩⟩
        refine ⟨.bool true, ?_, rfl, (HL.trans (belowK_b (w := w) (Nat.le_refl _) _ D3 _ _ (by omega) hK3b rfl rfl)).trans (belowK_b (w := w) (Nat.le_refl _) _ D _ _ (by omega) hK4 rfl rfl)⟩
        simp [results, Tryz.results3, go_sem, y1]
    · subst hA0
      have q1 : ((N : Int) == lv) = false := beq_eq_false_iff_ne.2 hlv
      have q2 : ((N : Int) != lv) = true := by rw [bne, q1]; rfl
      obtain ⟨⟨r0, r1, r2, r3, r4, r5, r6, r7, r8, r9, r10, r11⟩, l1, m1, m2⟩ := T1.facts
      have e1 := (Blk.cell B1 0).trans (show _ = some (.int .i64 (N : Nat) : Value) from rfl)
      have e2 := Blk.frozen B1 0
      have e3 := Blk.lt B1
      have n1 : ¬ b26 = w.heap.size + 1 := by omega
      have n2 : ¬ w.heap.size + 1 = b26 := by omega
      have n3 : ¬ b26 = w.heap.size := by omega
      have n4 : ¬ w.heap.size = b26 := by omega
      have n5 : ¬ b26 = w.heap.size + 1 + 1 := by omega
      have n6 : ¬ w.heap.size + 1 + 1 = b26 := by omega
      gi_wp2_with fail
      have hDW : D < W.heap.size := (Array.getElem?_eq_some_iff.1 hK).1
      have neD : D ≠ b26 := by omega
      replace T0 := GL.set T1 (p := ⟨b26, 0, none⟩) (show w.heap.size + 2 < b26 by omega) (.int .i64 0)
      replace B26 : Blk (W.setCell ⟨b26, 0, none⟩ (.int .i64 0)) b26 3 #[.int .i64 0] := Blk.set_ B1 0 (.int .i64 0)
      replace H6 := h6.setCell (p := ⟨b26, 0, none⟩) h6b (.int .i64 0)
      have HD := (Below.heap_setCell W ⟨b26, 0, none⟩ (.int .i64 0) D neD).trans hK
      have hbW3 : b26 < (W.setCell ⟨b26, 0, none⟩ (.int .i64 0)).heap.size := B26.lt
      have hDW3 : D < (W.setCell ⟨b26, 0, none⟩ (.int .i64 0)).heap.size := (Array.getElem?_eq_some_iff.1 HD).1
      have h63 := H6.size
      clear r0 r1 r2 r3 r4 r5 r6 r7 r8 r9 r10 r11 l1 m1 m2 e1 e2 e3 T1 B1 h6
      generalize (W.setCell ⟨b26, 0, none⟩ (.int .i64 0)) = W3 at *
      refine rf_named fun A0 hA0 => ?_
      refine wpIn_rangeFunc_ownH rfl (by decide) (gf := 20) (lb := #[.pointer (some ⟨nA, 0, none⟩), .pointer (some ⟨nD, 0, none⟩), .pointer (some ⟨nG, 0, none⟩)]) (by rw [hA0]; rfl) trivial (enters_of Tryz.func20 (by kernel_rfl) rfl)
        (RS.out nA nD nG w6.heap.size w6 zG (Nat.le_refl _) zA zD cA cD gB) belowK_t (belowK_b (show w6.heap.size ≤ W3.heap.size by omega)) H6 (fun _ => rfl)
        (fun pre W => (((GL w G lv W ∧ Blk W b26 3 #[.int .i64 (pre.length : Nat)]) ∧ pre.map (·.1) = List.range pre.length) ∧ Below w6.heap.size w6 W) ∧ W.heap[D]? = some (.deferred (some [])))
        (fun c pre W => c = .ret ∧ (¬ pre.map (·.1) = List.range pre.length ∨ ((Below w.heap.size w W ∧ Blk W (w.heap.size + 2) 4 #[.bool true]) ∧ W.heap[D]? = some (.deferred (some [])))))
        (OwnFrom.and (OwnFrom.and (OwnFrom.and (OwnFrom.and (gl_own _ w G lv (by omega)) (blk_own _ _ _ (fun pre : List TK => #[.int .i64 (pre.length : Nat)]))) (ownFrom_pure _ _)) (ownFrom_below (Nat.le_refl _) (by omega))) (heap_own (by omega))) (fun c s X Y row hs hg hr => by obtain ⟨h0, h | ⟨⟨h1, h2⟩, h3⟩⟩ := hs; exact ⟨h0, Or.inl h⟩; exact ⟨h0, Or.inr ⟨⟨ownFrom_below (β := Unit) (Nat.le_refl _) (by omega) () X Y row h1 hg hr, blk_kept h2 hg hr⟩, heap_own (β := Unit) (B := W3.heap.size) (by omega) () X Y row h3 hg hr⟩⟩) ⟨⟨⟨⟨T0, B26⟩, rfl⟩, H6⟩, HD⟩
        (fun x a' W => ∃ b28 : Nat, b26 + 1 ≤ b28 ∧ Blk W b28 37 #[.int .i64 (G.rX (x.1 : Nat)), .int .i64 (G.rY (x.1 : Nat)), .int .i64 (G.rA (x.1 : Nat)), .int .i64 (G.rD (x.1 : Nat))] ∧ a' = (fun b => Act.mk ((((A0.tmps.setIfInBounds 203 (.int .i64 (x.1 : Nat))).setIfInBounds 204 (.agg #[.int .i64 (G.rX (x.1 : Nat)), .int .i64 (G.rY (x.1 : Nat)), .int .i64 (G.rA (x.1 : Nat)), .int .i64 (G.rD (x.1 : Nat))])).setIfInBounds 31 (.int .i64 (x.1 : Nat))).setIfInBounds 32 (.pointer (some ⟨b, 0, none⟩))) []) b28)
        (fun x a' => blk_ex_own _ _ _ _ _ a') ?assign3 ?body3 ?done3 ?stop3
      case assign3 =>
        rintro l pre x W K ⟨⟨⟨⟨T1, B1⟩, hp⟩, h6⟩, hd⟩ hK
        subst hA0
        have hbl := B1.lt
        gi_wp2
        refine hK _ _ ((KeepsOthers.alloc _ _).from _) ((Below.refl _ W).alloc (by omega) _) ⟨⟨⟨⟨T1.more _, B1.alloc _⟩, hp⟩, h6.alloc h6.size _⟩, (Below.heap_alloc W _ _ (Array.getElem?_eq_some_iff.1 hd).1).trans hd⟩ ⟨W.heap.size, by omega, Blk.new W _ _, ?_⟩
        rfl
      case body3 =>
        rintro l pre x a' W hl hr ⟨⟨⟨⟨T1, B1⟩, hp⟩, h6⟩, hd⟩ ⟨b28, hb28, C1, rfl⟩ hlt
        subst hA0
        obtain ⟨xv, hxv⟩ := x
        obtain ⟨k, hk⟩ : ∃ k, k = pre.length := ⟨_, rfl⟩
        have HK := Lib.hid hk
        rw [← hk] at B1 hlt
        have HP := Lib.hid hp
        have hWs : w6.heap.size ≤ W.heap.size := h6.size
        have hDW : D < W.heap.size := (Array.getElem?_eq_some_iff.1 hd).1
        have neD : D ≠ b26 := by omega
        have KRk := Lib.hid (KR.out k hlt)
        obtain ⟨⟨r0, r1, r2, r3, r4, r5, r6, r7, r8, r9, r10, r11⟩, l1, m1, m2⟩ := T1.facts
        have e1 := (Blk.cell B1 0).trans (show _ = some (.int .i64 (k : Nat) : Value) from rfl)
        have e2 := Blk.frozen B1 0
        have e3 := Blk.lt B1
        have g0 := (Blk.cell C1 0).trans (show _ = some (.int .i64 (G.rX (xv : Nat)) : Value) from rfl)
        have g1 := (Blk.cell C1 1).trans (show _ = some (.int .i64 (G.rY (xv : Nat)) : Value) from rfl)
        have g2 := (Blk.cell C1 2).trans (show _ = some (.int .i64 (G.rA (xv : Nat)) : Value) from rfl)
        have g3 := (Blk.cell C1 3).trans (show _ = some (.int .i64 (G.rD (xv : Nat)) : Value) from rfl)
        have g4 := Blk.lt C1
        clear hk hp
        have hk6 : k < 65536 := by omega
        have n1 : ¬ b26 = w.heap.size + 1 := by omega
        have n2 : ¬ w.heap.size + 1 = b26 := by omega
        have n3 : ¬ b26 = w.heap.size := by omega
        have n4 : ¬ w.heap.size = b26 := by omega
        have n5 : ¬ b26 = w.heap.size + 1 + 1 := by omega
        have n6 : ¬ w.heap.size + 1 + 1 = b26 := by omega
        by_cases hx : xv = k
        · subst hx
          by_cases hlv : 3000 < (xv : Int) + 1
          · gi_wp2_with (gi_at_call 12; refine (CallsIn.inRound l ((callsIn_wide (n := _)).2 (KRk.out _))).mono ?_; rintro e w2 ⟨rfl, hb⟩; replace T1 := T1.step hb; replace B1 := Blk.below B1 hb (Blk.lt B1); replace C1 := Blk.below C1 hb (Blk.lt C1); have HBW := hb; clear hb e1 e2 e3 g0 g1 g2 g3 g4; clear r0 r1 r2 r3 r4 r5 r6 r7 r8 r9 r10 r11 l1 m1 m2; obtain ⟨⟨r0, r1, r2, r3, r4, r5, r6, r7, r8, r9, r10, r11⟩, l1, m1, m2⟩ := T1.facts; have e1 := (Blk.cell B1 0).trans (show _ = some (.int .i64 (xv : Nat) : Value) from rfl); have e2 := Blk.frozen B1 0; have e3 := Blk.lt B1; have g0 := (Blk.cell C1 0).trans (show _ = some (.int .i64 (G.rX (xv : Nat)) : Value) from rfl); have g1 := (Blk.cell C1 1).trans (show _ = some (.int .i64 (G.rY (xv : Nat)) : Value) from rfl); have g2 := (Blk.cell C1 2).trans (show _ = some (.int .i64 (G.rA (xv : Nat)) : Value) from rfl); have g3 := (Blk.cell C1 3).trans (show _ = some (.int .i64 (G.rD (xv : Nat)) : Value) from rfl); have g4 := Blk.lt C1; have L2 := (GL.set T1 (p := ⟨b26, 0, none⟩) (show w.heap.size + 2 < b26 by omega) (.int .i64 ((xv : Int) + 1))).more (.cells #[.int .i64 (G.rX (xv : Nat)), .int .i64 (G.rY (xv : Nat)), .int .i64 (G.rA (xv : Nat)), .int .i64 (G.rD (xv : Nat))] 37); have l2 := L2.facts.2.1)
            have HD4 := (show ((w2.setCell ⟨b26, 0, none⟩ (.int .i64 ((xv : Int) + 1))).alloc (.cells #[.int .i64 (G.rX (xv : Nat)), .int .i64 (G.rY (xv : Nat)), .int .i64 (G.rA (xv : Nat)), .int .i64 (G.rD (xv : Nat))] 37)).heap[D]? = some (.deferred (some [])) from ((Below.heap_alloc _ _ D (by simp; exact Nat.lt_of_lt_of_le hDW HBW.size)).trans ((Below.heap_setCell _ ⟨b26, 0, none⟩ _ D neD).trans ((HBW.block D hDW).trans hd))))
            have hD4 := (Array.getElem?_eq_some_iff.1 HD4).1
            clear r0 r1 r2 r3 r4 r5 r6 r7 r8 r9 r10 r11 l1 m1 m2
            clear e1 e2 e3 g0 g1 g2 g3 g4 l2
            obtain ⟨⟨r0, r1, r2, r3, r4, r5, r6, r7, r8, r9, r10, r11⟩, l1, m1, m2⟩ := L2.facts
            gi_wp2_with (gi_at_call 10; refine (CallsIn.inRound l ((callsIn_wide (n := _)).2 (lives25_c _ (HG.out.below L2.low (Nat.le_refl _))))).mono ?_; rintro e w9 ⟨rfl, hb⟩; replace L2 := L2.step hb; have HD5 := (hb.block D hD4).trans HD4; have HB9 := hb; clear hb; clear r0 r1 r2 r3 r4 r5 r6 r7 r8 r9 r10 r11 l1 m1 m2; obtain ⟨⟨r0, r1, r2, r3, r4, r5, r6, r7, r8, r9, r10, r11⟩, l1, m1, m2⟩ := L2.facts)
            exact ⟨((((keeps_below HBW).trans ((KeepsOthers.setCell _ _ _).from _)).trans ((KeepsOthers.alloc _ _).from _)).trans (keeps_below HB9)).trans ((KeepsOthers.setCell _ _ _).from _), rfl, Or.inr ⟨⟨L2.low.setCell (p := ⟨w.heap.size + 2, 0, none⟩) (by show w.heap.size ≤ w.heap.size + 2; omega) _, Blk.set_ L2.b10 0 _⟩, (Below.heap_setCell w9 ⟨w.heap.size + 2, 0, none⟩ (.bool true) D (by show D ≠ w.heap.size + 2; omega)).trans HD5⟩⟩
          · gi_wp2_with (gi_at_call 12; refine (CallsIn.inRound l ((callsIn_wide (n := _)).2 (KRk.out _))).mono ?_; rintro e w2 ⟨rfl, hb⟩; replace T1 := T1.step hb; replace B1 := Blk.below B1 hb (Blk.lt B1); replace C1 := Blk.below C1 hb (Blk.lt C1); have HBW := hb; clear hb e1 e2 e3 g0 g1 g2 g3 g4; clear r0 r1 r2 r3 r4 r5 r6 r7 r8 r9 r10 r11 l1 m1 m2; obtain ⟨⟨r0, r1, r2, r3, r4, r5, r6, r7, r8, r9, r10, r11⟩, l1, m1, m2⟩ := T1.facts; have e1 := (Blk.cell B1 0).trans (show _ = some (.int .i64 (xv : Nat) : Value) from rfl); have e2 := Blk.frozen B1 0; have e3 := Blk.lt B1; have g0 := (Blk.cell C1 0).trans (show _ = some (.int .i64 (G.rX (xv : Nat)) : Value) from rfl); have g1 := (Blk.cell C1 1).trans (show _ = some (.int .i64 (G.rY (xv : Nat)) : Value) from rfl); have g2 := (Blk.cell C1 2).trans (show _ = some (.int .i64 (G.rA (xv : Nat)) : Value) from rfl); have g3 := (Blk.cell C1 3).trans (show _ = some (.int .i64 (G.rD (xv : Nat)) : Value) from rfl); have g4 := Blk.lt C1; have L2 := (GL.set T1 (p := ⟨b26, 0, none⟩) (show w.heap.size + 2 < b26 by omega) (.int .i64 ((xv : Int) + 1))).more (.cells #[.int .i64 (G.rX (xv : Nat)), .int .i64 (G.rY (xv : Nat)), .int .i64 (G.rA (xv : Nat)), .int .i64 (G.rD (xv : Nat))] 37); have l2 := L2.facts.2.1)
            have HM := map_snoc (x := (⟨xv, hxv⟩ : TK)) (HP.out.trans (by rw [← HK.out])) rfl
            exact ⟨((keeps_below HBW).trans ((KeepsOthers.setCell _ _ _).from _)).trans ((KeepsOthers.alloc _ _).from _), ((HBW.mono hWs).setCell (p := ⟨b26, 0, none⟩) h6b _).alloc (by simp; exact Nat.le_trans hWs HBW.size) _, ⟨⟨⟨L2, (show Blk _ b26 3 #[.int .i64 ((pre ++ [(⟨xv, hxv⟩ : TK)]).length : Nat)] from by rw [show (((pre ++ [(⟨xv, hxv⟩ : TK)]).length : Nat) : Int) = (xv : Int) + 1 from by rw [List.length_append, ← HK.out]; rfl]; exact (Blk.set_ B1 0 _).alloc _)⟩, by rw [HM, List.length_append, ← HK.out]; rfl⟩, h6.trans (((HBW.mono hWs).setCell (p := ⟨b26, 0, none⟩) h6b _).alloc (by simp; exact Nat.le_trans hWs HBW.size) _)⟩, ((Below.heap_alloc _ _ D (by simp; exact Nat.lt_of_lt_of_le hDW HBW.size)).trans ((Below.heap_setCell _ ⟨b26, 0, none⟩ _ D neD).trans ((HBW.block D hDW).trans hd)))⟩
        · have hx2 : ¬ (xv : Int) = (k : Int) := by omega
          have q1 : ((xv : Int) == (k : Int)) = false := beq_eq_false_iff_ne.2 hx2
          have q2 : ((xv : Int) != (k : Int)) = true := by rw [bne, q1]; rfl
          gi_wp2_with (gi_at_call 12; refine (CallsIn.inRound l ((callsIn_wide (n := _)).2 (KRk.out _))).mono ?_; rintro e w2 ⟨rfl, hb⟩; replace T1 := T1.step hb; replace B1 := Blk.below B1 hb (Blk.lt B1); replace C1 := Blk.below C1 hb (Blk.lt C1); have HBW := hb; clear hb e1 e2 e3 g0 g1 g2 g3 g4; clear r0 r1 r2 r3 r4 r5 r6 r7 r8 r9 r10 r11 l1 m1 m2; obtain ⟨⟨r0, r1, r2, r3, r4, r5, r6, r7, r8, r9, r10, r11⟩, l1, m1, m2⟩ := T1.facts; have e1 := (Blk.cell B1 0).trans (show _ = some (.int .i64 (k : Nat) : Value) from rfl); have e2 := Blk.frozen B1 0; have e3 := Blk.lt B1; have g0 := (Blk.cell C1 0).trans (show _ = some (.int .i64 (G.rX (xv : Nat)) : Value) from rfl); have g1 := (Blk.cell C1 1).trans (show _ = some (.int .i64 (G.rY (xv : Nat)) : Value) from rfl); have g2 := (Blk.cell C1 2).trans (show _ = some (.int .i64 (G.rA (xv : Nat)) : Value) from rfl); have g3 := (Blk.cell C1 3).trans (show _ = some (.int .i64 (G.rD (xv : Nat)) : Value) from rfl); have g4 := Blk.lt C1)
          exact ⟨(keeps_below HBW).trans ((((KeepsOthers.setCell _ _ _).from _)).trans ((KeepsOthers.alloc _ _).from _)), rfl, Or.inl fun c => hx (by have := map_last c; rw [← HK.out] at this; exact this)⟩
      case stop3 =>
        rintro D3 c pre W hD3 hsp ⟨rfl, h⟩ hK3
        rcases h with h | ⟨⟨hlow, hB10⟩, hd⟩
        · exact absurd hsp h
        · subst hA0
          clear hsp
          gi_wp2_with fail
          have hDne : D ≠ D3 := by omega
          have hK4 : (W.putObj D3 (.deferred none)).heap[D]? = some (.deferred (some [])) := (World.putObj_heap_other hDne).trans hd
          have B3 : Blk (W.putObj D3 (.deferred none)) (w.heap.size + 2) 4 #[.bool true] := (World.putObj_heap_other (by omega)).trans hB10
          have B4 : Blk ((W.putObj D3 (.deferred none)).putObj D (.deferred none)) (w.heap.size + 2) 4 #[.bool true] := (World.putObj_heap_other (by omega)).trans B3
          have y1 : ((W.putObj D3 (.deferred none)).putObj D (.deferred none)).cell? ⟨w.heap.size + 1 + 1, 0, none⟩ = some (.bool true : Value) := (Blk.cell B4 0).trans rfl
          refine ⟨by simp, .inl ⟨_, _, rfl, run_takeDeferred hK3, ?_⟩⟩
          refine ⟨by simp, .inl ⟨_, _, rfl, run_takeDeferred hK4, ?_⟩⟩
          refine ⟨.bool true, ?_, rfl, (hlow.trans (belowK_b (w := w) (Nat.le_refl _) _ D3 _ _ (by omega) hK3 rfl rfl)).trans (belowK_b (w := w) (Nat.le_refl _) _ D _ _ (by omega) hK4 rfl rfl)⟩
          simp [results, Tryz.results3, go_sem, y1]
      case done3 =>
        rintro D3 xs W hD3 hS ⟨⟨⟨⟨T1, B1⟩, hp⟩, h6⟩, hd⟩ hK3
        rw [map_len hS] at B1
        clear hS hp
        subst hA0
        have q3 : ((N : Int) == (N : Int)) = true := beq_self_eq_true _
        have q4 : ((N : Int) != (N : Int)) = false := by rw [bne, q3]; rfl
        have hD2 : D < W.heap.size := (Array.getElem?_eq_some_iff.1 hd).1
        have hD4 : D3 < W.heap.size := (Array.getElem?_eq_some_iff.1 hK3).1
        obtain ⟨⟨r0, r1, r2, r3, r4, r5, r6, r7, r8, r9, r10, r11⟩, l1, m1, m2⟩ := T1.facts
        have e1 := (Blk.cell B1 0).trans (show _ = some (.int .i64 (N : Nat) : Value) from rfl)
        have e2 := Blk.frozen B1 0
        have e3 := Blk.lt B1
        have n1 : ¬ b26 = w.heap.size + 1 := by omega
        have n2 : ¬ w.heap.size + 1 = b26 := by omega
        have n3 : ¬ b26 = w.heap.size := by omega
        have n4 : ¬ w.heap.size = b26 := by omega
        have n5 : ¬ b26 = w.heap.size + 1 + 1 := by omega
        have n6 : ¬ w.heap.size + 1 + 1 = b26 := by omega
        gi_wp2_with (gi_at_call 10; refine ((callsIn_wide (n := _)).2 (lives25_c _ (HG.out.below T1.low (Nat.le_refl _)))).mono ?_; rintro e w9 ⟨rfl, hb⟩; replace T1 := T1.step hb; replace hK3 := (hb.block D3 hD4).trans hK3; replace hd := (hb.block D hD2).trans hd; clear hb e1 e2 e3; clear r0 r1 r2 r3 r4 r5 r6 r7 r8 r9 r10 r11 l1 m1 m2; obtain ⟨⟨r0, r1, r2, r3, r4, r5, r6, r7, r8, r9, r10, r11⟩, l1, m1, m2⟩ := T1.facts)
        have hK3b := (Below.heap_setCell w9 ⟨w.heap.size + 2, 0, none⟩ (.bool true) D3 (by show D3 ≠ w.heap.size + 2; omega)).trans hK3
        have hdb := (Below.heap_setCell w9 ⟨w.heap.size + 2, 0, none⟩ (.bool true) D (by show D ≠ w.heap.size + 2; omega)).trans hd
        have HL := T1.low.setCell (p := ⟨w.heap.size + 2, 0, none⟩) (by show w.heap.size ≤ w.heap.size + 2; omega) (.bool true)
        have B2 := Blk.set_ T1.b10 0 (.bool true)
        have hDne : D ≠ D3 := by omega
        have hK4 : ((w9.setCell ⟨w.heap.size + 1 + 1, 0, none⟩ (.bool true)).putObj D3 (.deferred none)).heap[D]? = some (.deferred (some [])) := (World.putObj_heap_other hDne).trans hdb
        have B3 : Blk ((w9.setCell ⟨w.heap.size + 1 + 1, 0, none⟩ (.bool true)).putObj D3 (.deferred none)) (w.heap.size + 2) 4 #[.bool true] := (World.putObj_heap_other (by omega)).trans B2
        have B4 : Blk (((w9.setCell ⟨w.heap.size + 1 + 1, 0, none⟩ (.bool true)).putObj D3 (.deferred none)).putObj D (.deferred none)) (w.heap.size + 2) 4 #[.bool true] := (World.putObj_heap_other (by omega)).trans B3
        have y1 : (((w9.setCell ⟨w.heap.size + 1 + 1, 0, none⟩ (.bool true)).putObj D3 (.deferred none)).putObj D (.deferred none)).cell? ⟨w.heap.size + 1 + 1, 0, none⟩ = some (.bool true : Value) := (Blk.cell B4 0).trans rfl
        refine ⟨by simp, .inl ⟨_, _, rfl, run_takeDeferred hK3b, ?_⟩⟩
        refine ⟨by simp, .inl ⟨_, _, rfl, run_takeDeferred hK4, ?_⟩⟩
        refine ⟨.bool true, ?_, rfl, (HL.trans (belowK_b (w := w) (Nat.le_refl _) _ D3 _ _ (by omega) hK3b rfl rfl)).trans (belowK_b (w := w) (Nat.le_refl _) _ D _ _ (by omega) hK4 rfl rfl)⟩
        simp [results, Tryz.results3, go_sem, y1]
end Go.Proofs.YtackmbfbilbopaaGreatDoor
