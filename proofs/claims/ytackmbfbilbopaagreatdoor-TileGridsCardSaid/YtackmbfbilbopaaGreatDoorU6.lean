/- Texts put together: TG6 TG7 TG8a. -/
import Derived.Test.YtackmbfbilbopaaGreatDoorU4
import Derived.Test.YtackmbfbilbopaaGreatDoorU5
import Derived.IntWalk
import Derived.RangeFuncNested
import Derived.RangeFuncBound
import Derived.RangeFuncCalls
import Derived.RangeFuncLeaves
import Derived.RangeFuncFrom
import Derived.Shelf.Abstract
import Derived.Shelf.RegionOpen
import Derived.WalkKit
import Derived.OwnWalkIn
import Derived.TacticsInMore
import Derived.LoopNIn
import Derived.LoopIn
import Derived.WalkMore
set_option linter.unusedSimpArgs false
set_option linter.unusedVariables false
namespace Go.Proofs.YtackmbfbilbopaaGreatDoor
open Go Go.RowKit Nt
attribute [local go_sem] Oper.semAt_some
theorem wide_fn25 (f : Nat) : Fence.wide.fn f = True := eq_true trivial
attribute [local go_sem] wide_fn25
structure GL (w : World) (G : GrT) (lv : Int) (W : World) : Prop where
  low : Below w.heap.size w W
  b5 : Bx11 W w.heap.size G
  b9 : Blk W (w.heap.size + 1) 3 #[.int .i64 lv]
  b10 : Blk W (w.heap.size + 2) 4 #[.bool false]
theorem GL.start (w : World) (G : GrT) (lv : Int) : GL w G lv (((w.alloc (.cells #[.bool G.w.c.re.g, .string G.w.c.re.s, .int .i64 G.w.c.re.x, .bool G.w.c.im.g, .string G.w.c.im.s, .int .i64 G.w.c.im.x, .int .i64 G.w.e, .int .i64 G.w.a, .int .i64 G.w.d, .int .i64 G.x, .int .i64 G.h] 30)).alloc (.cells #[.int .i64 lv] 3)).alloc (.cells #[.bool false] 4)) := by
  have h1 := Blk.new w 30 #[.bool G.w.c.re.g, .string G.w.c.re.s, .int .i64 G.w.c.re.x, .bool G.w.c.im.g, .string G.w.c.im.s, .int .i64 G.w.c.im.x, .int .i64 G.w.e, .int .i64 G.w.a, .int .i64 G.w.d, .int .i64 G.x, .int .i64 G.h]
  have h2 := Blk.new (w.alloc (.cells #[.bool G.w.c.re.g, .string G.w.c.re.s, .int .i64 G.w.c.re.x, .bool G.w.c.im.g, .string G.w.c.im.s, .int .i64 G.w.c.im.x, .int .i64 G.w.e, .int .i64 G.w.a, .int .i64 G.w.d, .int .i64 G.x, .int .i64 G.h] 30)) 3 #[.int .i64 lv]
  have h3 := Blk.new ((w.alloc (.cells #[.bool G.w.c.re.g, .string G.w.c.re.s, .int .i64 G.w.c.re.x, .bool G.w.c.im.g, .string G.w.c.im.s, .int .i64 G.w.c.im.x, .int .i64 G.w.e, .int .i64 G.w.a, .int .i64 G.w.d, .int .i64 G.x, .int .i64 G.h] 30)).alloc (.cells #[.int .i64 lv] 3)) 4 #[.bool false]
  rw [World.size_alloc] at h2
  rw [World.size_alloc, World.size_alloc] at h3
  exact ⟨(((Below.refl _ _).alloc (Nat.le_refl _) _).alloc (by simp) _).alloc (by simp; omega) _, (Blk.alloc h1 _).alloc _, h2.alloc _, h3⟩
theorem GL.step {w : World} {G : GrT} {lv : Int} {W W' : World} (h : GL w G lv W) (hb : Below W.heap.size W W') : GL w G lv W' := ⟨below_then h.low hb, Blk.below h.b5 hb (Blk.lt h.b5), h.b9.below hb h.b9.lt, h.b10.below hb h.b10.lt⟩
theorem GL.more {w : World} {G : GrT} {lv : Int} {W : World} (h : GL w G lv W) (o : Obj) : GL w G lv (W.alloc o) := h.step ((Below.refl _ _).alloc (Nat.le_refl _) _)
theorem GL.set {w : World} {G : GrT} {lv : Int} {W : World} (h : GL w G lv W) {p : Addr} (hp : w.heap.size + 2 < p.block) (v : Value) : GL w G lv (W.setCell p v) := ⟨h.low.setCell (p := p) (by omega) _, Blk.far h.b5 (by omega) _, h.b9.far (by omega) _, h.b10.far (by omega) _⟩
theorem GL.facts {w : World} {G : GrT} {lv : Int} {W : World} (h : GL w G lv W) : (w.heap.size + 2 < W.heap.size ∧ W.cell? ⟨w.heap.size, 0, none⟩ = some (.bool G.w.c.re.g) ∧ W.cell? ⟨w.heap.size, 1, none⟩ = some (.string G.w.c.re.s) ∧ W.cell? ⟨w.heap.size, 2, none⟩ = some (.int .i64 G.w.c.re.x) ∧ W.cell? ⟨w.heap.size, 3, none⟩ = some (.bool G.w.c.im.g) ∧ W.cell? ⟨w.heap.size, 4, none⟩ = some (.string G.w.c.im.s) ∧ W.cell? ⟨w.heap.size, 5, none⟩ = some (.int .i64 G.w.c.im.x) ∧ W.cell? ⟨w.heap.size, 6, none⟩ = some (.int .i64 G.w.e) ∧ W.cell? ⟨w.heap.size, 7, none⟩ = some (.int .i64 G.w.a) ∧ W.cell? ⟨w.heap.size, 8, none⟩ = some (.int .i64 G.w.d) ∧ W.cell? ⟨w.heap.size, 9, none⟩ = some (.int .i64 G.x) ∧ W.cell? ⟨w.heap.size, 10, none⟩ = some (.int .i64 G.h)) ∧ W.cell? ⟨w.heap.size + 1, 0, none⟩ = some (.int .i64 lv) ∧ W.cell? ⟨w.heap.size + 2, 0, none⟩ = some (.bool false) ∧ W.frozen? ⟨w.heap.size + 2, 0, none⟩ = false :=
  ⟨⟨h.b10.lt, (Bx11.facts h.b5).2⟩, (h.b9.cell 0).trans rfl, (h.b10.cell 0).trans rfl, h.b10.frozen 0⟩
theorem blk_kept {X Y : World} {row : Option Nat} {B b : Nat} {t : TypeId} {cs : Array Value} (h : Blk X b t cs) (hg : X.grownBy Y row) (hr : ∀ r, row = some r → B ≤ r ∧ ∃ o : Obj, X.heap[r]? = some o ∧ o.isCells = false) : Blk Y b t cs := by
  refine (hg.block b (Blk.lt h) (fun e => ?_)).trans h
  obtain ⟨_, o, ho, hc⟩ := hr b e.symm
  unfold Blk at h
  rw [h] at ho
  cases ho
  exact absurd hc (by simp [Obj.isCells])
theorem gl_own {β : Type} (B : Nat) (w : World) (G : GrT) (lv : Int) (hB : w.heap.size ≤ B) : OwnFrom B (fun (_ : β) W => GL w G lv W) := fun s X Y row hs hg hr =>
  ⟨ownFrom_below (β := Unit) (w₀ := w) (Nat.le_refl _) hB () X Y row hs.low hg hr, blk_kept hs.b5 hg hr, blk_kept hs.b9 hg hr, blk_kept hs.b10 hg hr⟩
theorem eql_nilF (g : Fn) (p q : Array Value) (w : World) : (binOp .eql 43 (.func g p q) .nilFunc).run Tryz.prog w = .ok (.bool false) w := by
  have e : Op.equal 43 (.func g p q) .nilFunc = Op.equalIn (9999 + 1) 43 (.func g p q) .nilFunc := rfl
  simp only [binOp]
  rw [e]
  generalize 9999 = d
  simp [Op.equalIn, run_underlying Tryz.underlying43]
theorem blk_own {β : Type} (B b : Nat) (t : TypeId) (f : β → Array Value) : OwnFrom B (fun s W => Blk W b t (f s)) := fun s X Y row hs hg hr => blk_kept hs hg hr
set_option maxRecDepth 100000 in
set_option maxHeartbeats 4000000 in
theorem Rects_none (n0 : Nat) (hn : 1 ≤ n0) (nA nD nG nb : Nat) (w : World) (hAl : nA < w.heap.size) (hDl : nD < w.heap.size) (hA : w.cell? ⟨nA, 0, none⟩ = some (.int .i64 0)) (hD : w.cell? ⟨nD, 0, none⟩ = some (.int .i64 0)) :
    SeqStopsK Fence.wide n0 Tryz.prog 20 #[.pointer (some ⟨nA, 0, none⟩), .pointer (some ⟨nD, 0, none⟩), .pointer (some ⟨nG, 0, none⟩)] (fun x : TK => #[.int .i64 (x.1 : Nat), .agg #[.int .i64 0, .int .i64 0, .int .i64 0, .int .i64 0]]) (Below nb) (fun xs => xs = []) (fun _ => True) 0 w := fun l J Jx W hW hJ hJx hY h0 => by
  have cA := (hW.cell (p := ⟨nA, 0, none⟩) hAl).trans hA
  have cD := (hW.cell (p := ⟨nD, 0, none⟩) hDl).trans hD
  have H0 := Lib.hid h0
  clear hW hA hD hY h0 hJ hJx
  refine callsIn_of_wp Tryz.func20 rfl trivial ?_ rfl
  simp only [Tryz.ntmps20, List.size_toArray, List.length_cons, List.length_nil, Nat.reduceAdd, Nat.reduceSub, Array.replicate_succ, Array.replicate_zero, List.push_toArray, List.append_toArray, List.nil_append, List.cons_append]
  gi_wp2
  gi_loopw [9] (fun v wr => v = .int .i64 0 ∧ Hid (J [] wr)) (fun _ _ => 0)
  case atStart => exact ⟨rfl, H0⟩
  case round =>
    obtain ⟨rfl, hJs⟩ := hrel
    gi_wp2
    go_end0
    exact ⟨⟨_, rfl⟩, .inl ⟨[], rfl, hJs.out⟩⟩
end Go.Proofs.YtackmbfbilbopaaGreatDoor
namespace Go.Proofs.YtackmbfbilbopaaGreatDoor
open Go Go.RowKit Nt
attribute [local go_sem] Oper.semAt_some
attribute [local go_sem] wide_fn25 eql_nilF
set_option maxRecDepth 100000 in
set_option maxHeartbeats 4000000 in
theorem TG_no (G : GrT) (n c r lv : Int) (w : World) (hs : G.w.c.Small) (hno : ¬ G.Ok) (hG : Globs glT w) : CallsIn Fence.wide 3 Tryz.prog 3 #[.agg #[.bool G.w.c.re.g, .string G.w.c.re.s, .int .i64 G.w.c.re.x, .bool G.w.c.im.g, .string G.w.c.im.s, .int .i64 G.w.c.im.x, .int .i64 G.w.e, .int .i64 G.w.a, .int .i64 G.w.d, .int .i64 G.x, .int .i64 G.h], .int .i64 n, .int .i64 c, .int .i64 r, .int .i64 lv] w fun e w' => e = .returned (.bool true) ∧ Below w.heap.size w w' := by
  have HG := Lib.hid hG
  have T0 := GL.start w G lv
  obtain ⟨⟨r0, r1, r2, r3, r4, r5, r6, r7, r8, r9, r10, r11⟩, l1, m1, m2⟩ := T0.facts
  have K1 := Lib.hid (fun w => rTCheck_c G w hs)
  have K2 := Lib.hid (fun w hG => TCheck_c G w hs hG)
  have K3 := Lib.hid (fun w hG => TCount_c G w hs hG)
  have K4 := Lib.hid (fun w hG => TRect_no G n w hs hno hG)
  have K5 := Lib.hid (fun w hG => TAt_no G c r w hs hno hG)
  have K6 := Lib.hid (fun w hG => TRects_c G w hs hG)
  rw [(GrT.c_no hno).1, (GrT.c_no hno).2] at K3 K6
  have he : ¬ gdE G = 0 := by rcases gdE_nz hno with e | e <;> rw [e] <;> decide
  clear hs hno hG
  generalize gdE G = ee at *
  obtain ⟨q1, q2⟩ := nz_i he
  have q3 : (ee != 0) = true := by rw [bne, q1]; rfl
  refine callsIn_of_wp_marks Tryz.func3 rfl trivial ?_ rfl
  simp only [Tryz.ntmps3, List.size_toArray, List.length_cons, List.length_nil, Nat.reduceAdd, Nat.reduceSub, Array.replicate_succ, Array.replicate_zero, List.push_toArray, List.append_toArray, List.nil_append, List.cons_append]
  gi_wp2_with (gi_at_call 4; refine ((callsIn_wide (n := _)).2 (K1.out _)).mono ?_; rintro e w1 ⟨rfl, hb⟩; replace T0 := T0.step hb; clear r0 r1 r2 r3 r4 r5 r6 r7 r8 r9 r10 r11 l1 m1 m2; obtain ⟨⟨r0, r1, r2, r3, r4, r5, r6, r7, r8, r9, r10, r11⟩, l1, m1, m2⟩ := T0.facts)
  gi_wp2_with (gi_at_call 5; refine ((callsIn_wide (n := _)).2 (K2.out _ (HG.out.below T0.low (Nat.le_refl _)))).mono ?_; rintro e w1 ⟨rfl, hb⟩; replace T0 := T0.step hb; clear r0 r1 r2 r3 r4 r5 r6 r7 r8 r9 r10 r11 l1 m1 m2; obtain ⟨⟨r0, r1, r2, r3, r4, r5, r6, r7, r8, r9, r10, r11⟩, l1, m1, m2⟩ := T0.facts)
  gi_wp2_with (gi_at_call 6; refine ((callsIn_wide (n := _)).2 (K3.out _ (HG.out.below T0.low (Nat.le_refl _)))).mono ?_; rintro e w1 ⟨rfl, hb⟩; replace T0 := T0.step hb; clear r0 r1 r2 r3 r4 r5 r6 r7 r8 r9 r10 r11 l1 m1 m2; obtain ⟨⟨r0, r1, r2, r3, r4, r5, r6, r7, r8, r9, r10, r11⟩, l1, m1, m2⟩ := T0.facts)
  gi_wp2_with (gi_at_call 7; refine ((callsIn_wide (n := _)).2 (K4.out _ (HG.out.below T0.low (Nat.le_refl _)))).mono ?_; rintro e wR ⟨rfl, hb⟩; replace T0 := T0.step hb; have C0 := Blk.new wR 37 #[.int .i64 0, .int .i64 0, .int .i64 0, .int .i64 0]; replace T0 := T0.more (.cells #[.int .i64 0, .int .i64 0, .int .i64 0, .int .i64 0] 37); clear r0 r1 r2 r3 r4 r5 r6 r7 r8 r9 r10 r11 l1 m1 m2; obtain ⟨⟨r0, r1, r2, r3, r4, r5, r6, r7, r8, r9, r10, r11⟩, l1, m1, m2⟩ := T0.facts)
  gi_wp2_with (gi_at_call 8; refine ((callsIn_wide (n := _)).2 (K5.out _ (HG.out.below T0.low (Nat.le_refl _)))).mono ?_; rintro e w1 ⟨rfl, hb⟩; replace T0 := T0.step hb; replace C0 := C0.below hb C0.lt; clear r0 r1 r2 r3 r4 r5 r6 r7 r8 r9 r10 r11 l1 m1 m2; obtain ⟨⟨r0, r1, r2, r3, r4, r5, r6, r7, r8, r9, r10, r11⟩, l1, m1, m2⟩ := T0.facts)
  gi_wp2_with (gi_at_call 9; refine ((callsIn_wide (n := _)).2 (K6.out _ (HG.out.below T0.low (Nat.le_refl _)))).mono ?_; rintro e w1 ⟨nA, nD, nG, rfl, hb, ⟨zA, zD, zG⟩, cA, cD, gB⟩; replace T0 := T0.step hb; replace C0 := C0.below hb C0.lt; clear r0 r1 r2 r3 r4 r5 r6 r7 r8 r9 r10 r11 l1 m1 m2; obtain ⟨⟨r0, r1, r2, r3, r4, r5, r6, r7, r8, r9, r10, r11⟩, l1, m1, m2⟩ := T0.facts)
  have HZ := T0.low.size
  refine wpIn_rangeFunc_ownH rfl (by decide) (gf := 20) (lb := #[.pointer (some ⟨nA, 0, none⟩), .pointer (some ⟨nD, 0, none⟩), .pointer (some ⟨nG, 0, none⟩)]) rfl trivial (enters_of Tryz.func20 (by kernel_rfl) rfl)
    (Rects_none (3 - 1) (by decide) nA nD nG w1.heap.size w1 zA zD cA cD) belowK_t (belowK_b (Nat.le_refl _)) (Below.refl _ _) (fun _ => rfl)
    (fun pre W => GL w G lv W ∧ Blk W wR.heap.size 37 #[.int .i64 0, .int .i64 0, .int .i64 0, .int .i64 0]) (fun _ _ _ => False)
    (OwnFrom.and (gl_own _ w G lv HZ) (blk_own _ _ _ _)) (fun _ _ _ _ _ hs _ _ => hs) ⟨T0, C0⟩
    (fun _ _ _ => True) (fun _ _ _ _ _ _ _ _ _ => trivial) ?assign ?body ?done ?stop
  case assign =>
    intro l pre x W K hI hK
    gi_wp2
    exact hK _ W (KeepsFrom.refl _ _) (Below.refl _ _) hI trivial
  case body =>
    rintro l pre x a' W _ _ _ _ hlen
    exact absurd hlen (Nat.not_lt_zero _)
  case stop =>
    rintro D c pre W _ _ h _
    exact h.elim
  case done =>
    rintro D xs W hD hS ⟨T1, C1⟩ hK
    clear r0 r1 r2 r3 r4 r5 r6 r7 r8 r9 r10 r11 l1 m1 m2
    obtain ⟨⟨r0, r1, r2, r3, r4, r5, r6, r7, r8, r9, r10, r11⟩, l1, m1, m2⟩ := T1.facts
    have c0 := (Blk.cell C1 0).trans (show _ = some (.int .i64 0 : Value) from rfl)
    have c1 := (Blk.cell C1 1).trans (show _ = some (.int .i64 0 : Value) from rfl)
    have c2 := (Blk.cell C1 2).trans (show _ = some (.int .i64 0 : Value) from rfl)
    have c3 := (Blk.cell C1 3).trans (show _ = some (.int .i64 0 : Value) from rfl)
    have c4 := Blk.lt C1
    have hD2 : D < W.heap.size := (Array.getElem?_eq_some_iff.1 hK).1
    gi_wp2_with (gi_at_call 10; refine ((callsIn_wide (n := _)).2 (lives25_c _ (HG.out.below T1.low (Nat.le_refl _)))).mono ?_; rintro e w9 ⟨rfl, hb⟩; replace T1 := T1.step hb; replace hK := (hb.block D hD2).trans hK; clear hb hD2 c0 c1 c2 c3 c4; clear r0 r1 r2 r3 r4 r5 r6 r7 r8 r9 r10 r11 l1 m1 m2; obtain ⟨⟨r0, r1, r2, r3, r4, r5, r6, r7, r8, r9, r10, r11⟩, l1, m1, m2⟩ := T1.facts)
    have hne : D ≠ w.heap.size + 2 := by have := (T0.facts).1.1; omega
    have hK2 := (Below.heap_setCell w9 ⟨w.heap.size + 2, 0, none⟩ (.bool true) D hne).trans hK
    have B2 := Blk.set_ T1.b10 0 (.bool true)
    have B3 : Blk ((w9.setCell ⟨w.heap.size + 2, 0, none⟩ (.bool true)).putObj D (.deferred none)) (w.heap.size + 2) 4 #[.bool true] := (World.putObj_heap_other (by omega)).trans B2
    have y1 : ((w9.setCell ⟨w.heap.size + 1 + 1, 0, none⟩ (.bool true)).putObj D (.deferred none)).cell? ⟨w.heap.size + 1 + 1, 0, none⟩ = some (.bool true : Value) := (Blk.cell B3 0).trans rfl
    refine ⟨by simp, .inl ⟨_, _, rfl, run_takeDeferred hK2, ?_⟩⟩
    refine ⟨.bool true, ?_, rfl, (T1.low.setCell (p := ⟨w.heap.size + 2, 0, none⟩) (by show w.heap.size ≤ w.heap.size + 2; omega) _).trans (belowK_b (w := w) (Nat.le_refl _) _ D _ _ (by omega) hK2 rfl rfl)⟩
    simp [results, Tryz.results3, go_sem, y1]
end Go.Proofs.YtackmbfbilbopaaGreatDoor
namespace Go.Proofs.YtackmbfbilbopaaGreatDoor
open Go Go.RowKit Nt
theorem rf_named {F : Fence} {n : Nat} {P : Program} {Q : Exit → Act → World → Prop} {g : Operand} {ps : Array Tmp} {assign body : Code} {a : Act} {w : World} (h : ∀ A0, A0 = a → (Code.rangeFunc g ps assign body).wpIn F n P Q A0 w) : (Code.rangeFunc g ps assign body).wpIn F n P Q a w := h a rfl
theorem keeps_below {B : Nat} {W W' : World} (h : Below W.heap.size W W') : KeepsFrom B W W' := ⟨h.size, fun k o _ hk _ => (h.block k (Array.getElem?_eq_some_iff.1 hk).1).trans hk⟩
theorem blk_ex_own (B m : Nat) (t : TypeId) (cs : Array Value) (f : Nat → Act) (a' : Act) : OwnFrom B (fun (_ : Unit) W => ∃ b, m ≤ b ∧ Blk W b t cs ∧ a' = f b) := fun s X Y row hs hg hr => by
  obtain ⟨b, h0, h1, h2⟩ := hs
  exact ⟨b, h0, blk_kept h1 hg hr, h2⟩
theorem map_last {pre : List TK} {x : TK} (h : (pre ++ [x]).map (·.1) = List.range (pre ++ [x]).length) : x.1 = pre.length := by
  rw [List.length_append, List.length_singleton, List.range_succ, List.map_append, List.map_singleton] at h
  have := List.append_inj_right h (by simp)
  simpa using this
theorem heap_own {β : Type} {B D : Nat} {o : Obj} (hD : D < B) : OwnFrom B (fun (_ : β) W => W.heap[D]? = some o) := fun s X Y row hs hg hr =>
  (hg.block D (Array.getElem?_eq_some_iff.1 hs).1 (fun e => by have := (hr D e.symm).1; omega)).trans hs
end Go.Proofs.YtackmbfbilbopaaGreatDoor
