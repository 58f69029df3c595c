/- Texts put together: GL11 GL12 Post DP GP. -/
import Derived.Test.YtdknipaimfecaaaGreatDoorU4
import Derived.Test.YtdknipaimfecaaaGreatDoorU3
import Derived.Deep.QuietTactic
import Derived.Below
import Derived.ChangeSame
import Derived.Test.YtdknipaimfecaaaGreatDoorRows
import Derived.ProofKit
import Derived.Lib.SmallJoins
import Derived.OpenShut
import Derived.ShutString
import Derived.Deep.Strs
set_option linter.unusedSimpArgs false
set_option linter.unusedVariables false
namespace Go.Proofs.YtdknipaimfecaaaGreatDoor
open Go Go.RowKit Nt
set_option maxRecDepth 100000 in
theorem none6_c (w : World) : Calls Tryz.prog 6 #[.agg #[.bool false, .string ⟨#[]⟩, .int .i64 0, .bool false, .string ⟨#[]⟩, .int .i64 0], .int .i64 2] w fun e w' => e = .returned (.bool true) ∧ Below w.heap.size w w' := by
  go_enter Tryz.func6, Tryz.ntmps6
  go_wp2_with fail
  go_ret
  exact ⟨rfl, (Below.refl _ _).alloc (Nat.le_refl _) _⟩
set_option maxRecDepth 100000 in
theorem same6_c (p : Gt) (E : Int) (w : World) : Calls Tryz.prog 8 #[.agg #[.bool p.re.g, .string p.re.s, .int .i64 p.re.x, .bool p.im.g, .string p.im.s, .int .i64 p.im.x], .int .i64 E, .agg #[.bool p.re.g, .string p.re.s, .int .i64 p.re.x, .bool p.im.g, .string p.im.s, .int .i64 p.im.x], .int .i64 E] w fun e w' => e = .returned (.bool true) ∧ Below w.heap.size w w' := by
  go_enter Tryz.func8, Tryz.ntmps8
  go_wp2_with fail
  go_ret
  exact ⟨rfl, ((Below.refl _ _).alloc (Nat.le_refl _) _).alloc (by simp) _⟩
theorem rMay6_b (a : Gt) (w : World) (hs : a.Small) (b : Bool) (hb : b = true ↔ a.Ok) : Calls Tryz.prog 5 #[.agg #[.bool a.re.g, .string a.re.s, .int .i64 a.re.x, .bool a.im.g, .string a.im.s, .int .i64 a.im.x]] w fun e w' => e = .returned (.bool b) ∧ Below w.heap.size w w' := by
  classical
  have h := rMay6_c a w hs (decide a.re.Ok) (decide a.im.Ok) (by simp) (by simp)
  have e : (decide a.re.Ok && decide a.im.Ok) = b := by
    rw [Bool.eq_iff_iff, hb, Bool.and_eq_true, decide_eq_true_iff, decide_eq_true_iff]
    rfl
  rwa [e] at h
def NO6 (p : Gt) (E : Int) : Prop := p = Gt.zero ∧ E = 2
theorem pows_both (a : Gt) (n : Int) (w : World) (za : a.Small) (hn : -9223372036854775808 ≤ n ∧ n ≤ 9223372036854775807) (hG : Globs glT w) :
    ∃ (p : Gt) (E : Int), (∀ W, Below w.heap.size w W → Calls Tryz.prog 4 #[.agg #[.bool a.re.g, .string a.re.s, .int .i64 a.re.x, .bool a.im.g, .string a.im.s, .int .i64 a.im.x], .int .i64 n] W fun e w' => e = .returned (.tuple #[.agg #[.bool p.re.g, .string p.re.s, .int .i64 p.re.x, .bool p.im.g, .string p.im.s, .int .i64 p.im.x], .int .i64 E]) ∧ Below W.heap.size W w') ∧
      ((a.Ok ∧ ∀ W, Below w.heap.size w W → Calls Tryz.prog 7 #[.agg #[.bool a.re.g, .string a.re.s, .int .i64 a.re.x, .bool a.im.g, .string a.im.s, .int .i64 a.im.x], .int .i64 n] W fun e w' => e = .returned (.tuple #[.agg #[.bool p.re.g, .string p.re.s, .int .i64 p.re.x, .bool p.im.g, .string p.im.s, .int .i64 p.im.x], .int .i64 E]) ∧ Below W.heap.size W w') ∨ (¬ a.Ok ∧ NO6 p E)) := by
  by_cases ho : a.Ok
  · by_cases hb : n < 0 ∨ 64 < n
    · obtain ⟨g, hg, rfl⟩ := Gt.gs ho
      exact ⟨Gt.zero, 2, fun W hW => GPow_far g n W hg hb (hG.below hW (Nat.le_refl _)), Or.inl ⟨ho, fun W hW => rPow_far g.t n W hb⟩⟩
    · obtain ⟨g, hg, rfl⟩ := Gt.gs ho
      obtain ⟨m, rfl⟩ : ∃ m : Nat, n = (m : Int) := ⟨n.toNat, by omega⟩
      exact ⟨(powG g m oneG).1.t, (powG g m oneG).2, fun W hW => GPow_c g m W (by omega) hg (hG.below hW (Nat.le_refl _)), Or.inl ⟨ho, fun W hW => rPow_c g m W (by omega) hg (hG.below hW (Nat.le_refl _))⟩⟩
  · exact ⟨Gt.zero, 2, fun W hW => GPow_no a n W za ho (hG.below hW (Nat.le_refl _)), Or.inr ⟨ho, rfl, rfl⟩⟩
theorem gsums_both (l : List Gt) (A : Option Addr) (c n : Nat) (w : World) (hn : n = l.length) (hn2 : n ≤ 4398046511104) (hs : ∀ t ∈ l, t.Small) (h : Gts w A l) (hG : Globs glT w) :
    ∃ (s : Gt) (E : Int),
      (∀ W G, Below w.heap.size w W → OwnGAll W G n l → Calls Tryz.prog 9 #[.slice (some ⟨G, 0, none⟩) n (n + 1)] W fun e w' => e = .returned (.tuple #[.agg #[.bool s.re.g, .string s.re.s, .int .i64 s.re.x, .bool s.im.g, .string s.im.s, .int .i64 s.im.x], .int .i64 E]) ∧ Below W.heap.size W w') ∧
      (((∀ t ∈ l, t.Ok) ∧ ∀ W, Below w.heap.size w W → Calls Tryz.prog 11 #[.slice A n c] W fun e w' => e = .returned (.tuple #[.agg #[.bool s.re.g, .string s.re.s, .int .i64 s.re.x, .bool s.im.g, .string s.im.s, .int .i64 s.im.x], .int .i64 E]) ∧ Below W.heap.size W w') ∨
       ((∃ t ∈ l, ¬ t.Ok) ∧ NO6 s E)) := by
  by_cases ho : ∀ t ∈ l, t.Ok
  · obtain ⟨d, rfl, hd⟩ := Gts_gs ho
    rw [List.length_map] at hn
    subst hn
    refine ⟨(sumsG Gs.zero d).1.t, (sumsG Gs.zero d).2, fun W G hW hA => ?_, Or.inl ⟨ho, fun W hW => ?_⟩⟩
    · exact GSum_c d (some ⟨G, 0, none⟩) (d.length + 1) W (by omega) hd hA.gts (hG.below hW (Nat.le_refl _))
    · exact rSum6_c d A c W (by omega) hd (h.below hW) (hG.below hW (Nat.le_refl _))
  · have hex : ∃ t ∈ l, ¬ t.Ok := Classical.byContradiction fun hc => ho fun t ht => Classical.byContradiction fun h2 => hc ⟨t, ht, h2⟩
    refine ⟨Gt.zero, 2, fun W G hW hA => ?_, Or.inr ⟨hex, rfl, rfl⟩⟩
    subst hn
    exact GSum_bad l _ _ W (by omega) hs hA.gts hex (hG.below hW (Nat.le_refl _))
end Go.Proofs.YtdknipaimfecaaaGreatDoor
namespace Go.Proofs.YtdknipaimfecaaaGreatDoor
open Go Go.RowKit Nt
theorem Gts.ats {w w' : World} {ad : Addr} {l : List Gt} (h : Gts w (some ad) l) {k : Nat} (hk : k < l.length) (hb : Below w.heap.size w w') : w'.cell? (ad.add (k * 6)) = some (.bool l[k].re.g) ∧ w'.cell? ⟨(ad.add (k * 6)).block, (ad.add (k * 6)).off + 1, none⟩ = some (.string l[k].re.s) ∧ w'.cell? ⟨(ad.add (k * 6)).block, (ad.add (k * 6)).off + 2, none⟩ = some (.int .i64 l[k].re.x) ∧ w'.cell? ⟨(ad.add (k * 6)).block, (ad.add (k * 6)).off + 3, none⟩ = some (.bool l[k].im.g) ∧ w'.cell? ⟨(ad.add (k * 6)).block, (ad.add (k * 6)).off + 4, none⟩ = some (.string l[k].im.s) ∧ w'.cell? ⟨(ad.add (k * 6)).block, (ad.add (k * 6)).off + 5, none⟩ = some (.int .i64 l[k].im.x) := by
  obtain ⟨ad', e, hc⟩ := h.att hk hb
  obtain rfl : ad = ad' := by injection e
  exact hc
theorem wpList_storeH {P : Program} {ops : Array Oper} {rest : List Oper} {op : Oper} {a : Act} {w : World} {Q : Exit → Act → World → Prop} (G i : Nat) (hgd : op.guard = none) (ty : TypeId) (x y : Operand) (ho : op.op = .store ty x y)
    (v0 v1 v2 v3 v4 v5 : Value) (hx : a.eval x = .pointer (some ⟨G, i, none⟩)) (hy : a.eval y = .agg #[v0, v1, v2, v3, v4, v5]) (h0 : v0.oneCell' = true) (h1 : v1.oneCell' = true) (h2 : v2.oneCell' = true) (h3 : v3.oneCell' = true) (h4 : v4.oneCell' = true) (h5 : v5.oneCell' = true) (hi : (P.info? ty).map (·.size) = some 6)
    (r0 : (w.cell? ⟨G, i, none⟩).isSome = true ∧ w.frozen? ⟨G, i, none⟩ = false) (r1 : (w.cell? ⟨G, i + 1, none⟩).isSome = true ∧ w.frozen? ⟨G, i + 1, none⟩ = false) (r2 : (w.cell? ⟨G, i + 2, none⟩).isSome = true ∧ w.frozen? ⟨G, i + 2, none⟩ = false) (r3 : (w.cell? ⟨G, i + 3, none⟩).isSome = true ∧ w.frozen? ⟨G, i + 3, none⟩ = false) (r4 : (w.cell? ⟨G, i + 4, none⟩).isSome = true ∧ w.frozen? ⟨G, i + 4, none⟩ = false) (r5 : (w.cell? ⟨G, i + 5, none⟩).isSome = true ∧ w.frozen? ⟨G, i + 5, none⟩ = false)
    (h : ∀ W, W = ((((((w.setCell ⟨G, i, none⟩ v0).setCell ⟨G, i + 1, none⟩ v1).setCell ⟨G, i + 2, none⟩ v2).setCell ⟨G, i + 3, none⟩ v3).setCell ⟨G, i + 4, none⟩ v4).setCell ⟨G, i + 5, none⟩ v5) → wpList P ops Q rest (a.put op.dst undef) W) : wpList P ops Q (op :: rest) a w :=
  wpList_store_mid hgd ty x y ho G i #[v0, v1, v2, v3, v4, v5] hx hy (fun j hj => by
    match j, hj with
    | 0, _ => exact r0
    | 1, _ => exact r1
    | 2, _ => exact r2
    | 3, _ => exact r3
    | 4, _ => exact r4
    | 5, _ => exact r5
    | n + 6, hj => exact absurd hj (by simp)) (by rw [hi]; rfl) (by simp [h0, h1, h2, h3, h4, h5]) (h _ rfl)
set_option maxRecDepth 1000000 in
set_option maxHeartbeats 8000000 in
theorem GaussPowers_law (a : Gt) (nn : Int) (l : List Gt) (A : Option Addr) (c n : Nat) (w : World) (za : a.Small) (hnn : -9223372036854775808 ≤ nn ∧ nn ≤ 9223372036854775807) (hn : n = l.length) (hn2 : n ≤ 2199023255552) (hs : ∀ t ∈ l, t.Small) (h : Gts w A l) (hG : Globs glT w) :
    Calls Tryz.prog 3 #[.agg #[.bool a.re.g, .string a.re.s, .int .i64 a.re.x, .bool a.im.g, .string a.im.s, .int .i64 a.im.x], .int .i64 nn, .slice A n c] w fun e w' => e = .returned (.bool true) ∧ Below w.heap.size w w' := by
  obtain ⟨i0, hi0, hz0, hj1, hj2⟩ := info_parts (P := Tryz.prog) (e := 26) (z := .agg #[.bool false, .string ⟨#[]⟩, .int .i64 0, .bool false, .string ⟨#[]⟩, .int .i64 0]) (size := 6) (bytes := 64) (by kernel_rfl)
  obtain ⟨p, E, kp, hpc⟩ := pows_both a nn w za hnn hG
  obtain ⟨s, F, ks, hcase⟩ := gsums_both l A c n w hn (by omega) hs h hG
  have KP := Lib.hid kp
  have KS := Lib.hid ks
  have HC := Lib.hid hcase
  have HD := Lib.hid h
  have HS := Lib.hid hs
  have HG := Lib.hid hG
  have HN := Lib.hid hn
  have HZA := Lib.hid za
  have hn3 : (n : Int) ≤ 2199023255552 := by omega
  have BA := Lib.hid (Box6.new w (.bool a.re.g) (.string a.re.s) (.int .i64 a.re.x) (.bool a.im.g) (.string a.im.s) (.int .i64 a.im.x))
  have HB : Hid (Below w.heap.size w (w.alloc (.cells #[.bool a.re.g, .string a.re.s, .int .i64 a.re.x, .bool a.im.g, .string a.im.s, .int .i64 a.im.x] 26))) := Lib.hid ((Below.refl _ _).alloc (Nat.le_refl _) _)
  clear h hs hG hn ks hcase kp za hnn
  go_enter Tryz.func3, Tryz.ntmps3
  go_wp2_with fail
  refine (KP.out _ HB.out).mono ?_
  rintro e w1 ⟨rfl, hb1⟩
  have BA1 := Lib.hid ((BA.out.step hb1).more (.cells #[.bool p.re.g, .string p.re.s, .int .i64 p.re.x, .bool p.im.g, .string p.im.s, .int .i64 p.im.x] 26))
  have BX := Lib.hid (Box6.new w1 (.bool p.re.g) (.string p.re.s) (.int .i64 p.re.x) (.bool p.im.g) (.string p.im.s) (.int .i64 p.im.x))
  have hbt := below_chain HB.out hb1
  have HB1 := Lib.hid (hbt.alloc hbt.size (.cells #[.bool p.re.g, .string p.re.s, .int .i64 p.re.x, .bool p.im.g, .string p.im.s, .int .i64 p.im.x] 26))
  obtain ⟨x0, x1, x2, x3, x4, x5, x6, x7, x8, x9, x10, x11, x12⟩ := BA1.out.facts
  clear hb1 hbt HB BA KP
  go_wp2_with fail
  obtain ⟨b, hb0⟩ : ∃ b : Bool, b = true ↔ a.Ok := by
    classical
    exact ⟨decide a.Ok, by simp⟩
  refine (rMay6_b a _ HZA.out b hb0).mono ?_
  rintro e w2 ⟨rfl, hb2⟩
  have HB2 := Lib.hid (below_chain HB1.out hb2)
  have BA2 := Lib.hid (BA1.out.step hb2)
  have BX2 := Lib.hid (BX.out.step hb2)
  clear x0 x1 x2 x3 x4 x5 x6 x7 x8 x9 x10 x11 x12 hb2 HB1 BA1 BX
  obtain ⟨x0, x1, x2, x3, x4, x5, x6, x7, x8, x9, x10, x11, x12⟩ := BA2.out.facts
  obtain ⟨y0, y1, y2, y3, y4, y5, y6, y7, y8, y9, y10, y11, y12⟩ := BX2.out.facts
  rcases hpc with ⟨ho, kr⟩ | ⟨hno, hp2⟩
  · obtain rfl : b = true := hb0.2 ho
    have KR := Lib.hid kr
    clear kr ho hb0
    go_wp2_with fail
    refine (KR.out _ HB2.out).mono ?_
    rintro e w3 ⟨rfl, hb3⟩
    have BX3 := Lib.hid ((BX2.out.step hb3).more (.cells #[.bool p.re.g, .string p.re.s, .int .i64 p.re.x, .bool p.im.g, .string p.im.s, .int .i64 p.im.x] 26))
    have BY := Lib.hid (Box6.new w3 (.bool p.re.g) (.string p.re.s) (.int .i64 p.re.x) (.bool p.im.g) (.string p.im.s) (.int .i64 p.im.x))
    have hbt := below_chain HB2.out hb3
    have HB3 := Lib.hid (hbt.alloc hbt.size (.cells #[.bool p.re.g, .string p.re.s, .int .i64 p.re.x, .bool p.im.g, .string p.im.s, .int .i64 p.im.x] 26))
    clear x0 x1 x2 x3 x4 x5 x6 x7 x8 x9 x10 x11 x12 y0 y1 y2 y3 y4 y5 y6 y7 y8 y9 y10 y11 y12 hb3 hbt HB2 BA2 BX2 KR
    obtain ⟨y0, y1, y2, y3, y4, y5, y6, y7, y8, y9, y10, y11, y12⟩ := BX3.out.facts
    go_wp2_with fail
    refine (same6_c p E _).mono ?_
    rintro e w4 ⟨rfl, hb4⟩
    have HB4 := Lib.hid (below_chain HB3.out hb4)
    clear y0 y1 y2 y3 y4 y5 y6 y7 y8 y9 y10 y11 y12 hb4 HB3 BX3 BY
    go_wp2_with (at_make; go_loud (refine wpList_makeG l _ rfl _ _ _ rfl i0 Tryz.underlying27 hi0 hz0 hj1 .i64 .i64 _ _ n rfl rfl (by omega) (by omega) (by rw [hj2]; omega) (by unfold maxLen; omega) ?_); intro w0 hown0 hb0)
    obtain ⟨G, hG⟩ : ∃ G, G = w4.heap.size := ⟨_, rfl⟩
    rw [← hG] at hown0 ⊢
    have hbw : Below w.heap.size w w0 := below_chain HB4.out hb0
    have hGw : w.heap.size ≤ G := by rw [hG]; exact HB4.out.size
    clear hb0 hG
    go_loopw [12] (fun i wr => ∃ j : Nat, j ≤ n ∧ i = .int .i64 j ∧ Hid (OwnGs wr G n l j) ∧ Below w.heap.size w wr) (fun i _ => n - (intOf i).toNat)
    case atStart => exact ⟨0, Nat.zero_le _, rfl, Lib.hid hown0, hbw⟩
    case round =>
      clear hown0 hbw
      obtain ⟨j, hj, rfl, hown, hb⟩ := hrel
      by_cases hlt : j < n
      · have hjl : j < l.length := by have := HN.out; omega
        obtain ⟨ad, rfl, c0, c1, c2, c3, c4, c5⟩ := HD.out.att hjl hb
        have R0 := Lib.hid (hown.out.room (i := j * 6) (by omega))
        have R1 := Lib.hid (hown.out.room (i := j * 6 + 1) (by omega))
        have R2 := Lib.hid (hown.out.room (i := j * 6 + 2) (by omega))
        have R3 := Lib.hid (hown.out.room (i := j * 6 + 3) (by omega))
        have R4 := Lib.hid (hown.out.room (i := j * 6 + 4) (by omega))
        have R5 := Lib.hid (hown.out.room (i := j * 6 + 5) (by omega))
        have HP := Lib.hid (hown.out.put hlt hjl)
        have ea := add_plain0 G (j * 6)
        have hja : j < n + 1 := by omega
        clear hown
        generalize l[j] = d at *
        have HLT := Lib.hid hlt
        have HB := Lib.hid hb
        clear hjl hlt
        go_wp2_with (refine wpList_storeH G (j * 6) rfl 26 (Operand.tmp 61) (Operand.tmp 60) rfl (.bool d.re.g) (.string d.re.s) (.int .i64 d.re.x) (.bool d.im.g) (.string d.im.s) (.int .i64 d.im.x) rfl rfl rfl rfl rfl rfl rfl rfl (by rw [hi0]; exact congrArg some hj1) ?_ ?_ ?_ ?_ ?_ ?_ ?_; exact R0.out; exact R1.out; exact R2.out; exact R3.out; exact R4.out; exact R5.out; intro W hW; subst hW)
        go_roundw
        case rel => exact ⟨j + 1, by have := HLT.out; omega, by go_num, HP, below_six hb hGw _ _ _ _ _ _⟩
        case measure => have := HLT.out; simp [intOf]; omega
      · obtain rfl : n = j := by omega
        obtain ⟨w5, rfl⟩ : ∃ x, x = wr := ⟨_, rfl⟩
        have R0 := Lib.hid ((hown.out.below ((Below.refl _ _).alloc (Nat.le_refl _) (.cells #[.bool false, .string ⟨#[]⟩, .int .i64 77, .bool false, .string ⟨#[]⟩, .int .i64 0] 26))).room (i := n * 6) (by omega))
        have R1 := Lib.hid ((hown.out.below ((Below.refl _ _).alloc (Nat.le_refl _) (.cells #[.bool false, .string ⟨#[]⟩, .int .i64 77, .bool false, .string ⟨#[]⟩, .int .i64 0] 26))).room (i := n * 6 + 1) (by omega))
        have R2 := Lib.hid ((hown.out.below ((Below.refl _ _).alloc (Nat.le_refl _) (.cells #[.bool false, .string ⟨#[]⟩, .int .i64 77, .bool false, .string ⟨#[]⟩, .int .i64 0] 26))).room (i := n * 6 + 2) (by omega))
        have R3 := Lib.hid ((hown.out.below ((Below.refl _ _).alloc (Nat.le_refl _) (.cells #[.bool false, .string ⟨#[]⟩, .int .i64 77, .bool false, .string ⟨#[]⟩, .int .i64 0] 26))).room (i := n * 6 + 3) (by omega))
        have R4 := Lib.hid ((hown.out.below ((Below.refl _ _).alloc (Nat.le_refl _) (.cells #[.bool false, .string ⟨#[]⟩, .int .i64 77, .bool false, .string ⟨#[]⟩, .int .i64 0] 26))).room (i := n * 6 + 4) (by omega))
        have R5 := Lib.hid ((hown.out.below ((Below.refl _ _).alloc (Nat.le_refl _) (.cells #[.bool false, .string ⟨#[]⟩, .int .i64 77, .bool false, .string ⟨#[]⟩, .int .i64 0] 26))).room (i := n * 6 + 5) (by omega))
        have HA1 := Lib.hid ((hown.out.below ((Below.refl _ _).alloc (Nat.le_refl _) (.cells #[.bool false, .string ⟨#[]⟩, .int .i64 77, .bool false, .string ⟨#[]⟩, .int .i64 0] 26))).all_ HN.out)
        have ea := add_plain0 G (n * 6)
        have hB0 : Below w.heap.size w (w5.alloc (.cells #[.bool false, .string ⟨#[]⟩, .int .i64 77, .bool false, .string ⟨#[]⟩, .int .i64 0] 26)) := hb.alloc hb.size _
        have hB1 := below_six (i0 := n * 6) (i1 := n * 6 + 1) (i2 := n * 6 + 2) (i3 := n * 6 + 3) (i4 := n * 6 + 4) (i5 := n * 6 + 5) hB0 hGw (.bool false) (.string ⟨#[]⟩) (.int .i64 77) (.bool false) (.string ⟨#[]⟩) (.int .i64 0)
        have HB1 := Lib.hid hB1
        have hna : n < n + 1 := by omega
        have hGM : w5.heap.size ≠ G := Nat.ne_of_gt hown.out.lt
        have BM := Lib.hid (Blk.far (Blk.far (Blk.far (Blk.far (Blk.far (Blk.far (Blk.new w5 26 #[.bool false, .string ⟨#[]⟩, .int .i64 77, .bool false, .string ⟨#[]⟩, .int .i64 0]) (p := ⟨G, n * 6, none⟩) hGM (.bool false)) (p := ⟨G, n * 6 + 1, none⟩) hGM (.string ⟨#[]⟩)) (p := ⟨G, n * 6 + 2, none⟩) hGM (.int .i64 77)) (p := ⟨G, n * 6 + 3, none⟩) hGM (.bool false)) (p := ⟨G, n * 6 + 4, none⟩) hGM (.string ⟨#[]⟩)) (p := ⟨G, n * 6 + 5, none⟩) hGM (.int .i64 0))
        obtain ⟨M, hM⟩ : ∃ M, M = w5.heap.size := ⟨_, rfl⟩
        have HME := Lib.hid hM
        rw [← hM] at BM
        clear hown hlt hj hB1 hb hM hGM
        go_wp2_with (refine wpList_storeH G (n * 6) rfl 26 (Operand.tmp 68) (Operand.tmp 67) rfl (.bool false) (.string ⟨#[]⟩) (.int .i64 77) (.bool false) (.string ⟨#[]⟩) (.int .i64 0) rfl rfl rfl rfl rfl rfl rfl rfl (by rw [hi0]; exact congrArg some hj1) ?_ ?_ ?_ ?_ ?_ ?_ ?_; exact R0.out; exact R1.out; exact R2.out; exact R3.out; exact R4.out; exact R5.out; intro W hW; rw [← hW] at HA1 HB1 BM; clear hW R0 R1 R2 R3 R4 R5)
        refine (KS.out _ G HB1.out HA1.out).mono ?_
        rintro e w6 ⟨rfl, hb6⟩
        have BX := Lib.hid (Box6.new w6 (.bool s.re.g) (.string s.re.s) (.int .i64 s.re.x) (.bool s.im.g) (.string s.im.s) (.int .i64 s.im.x))
        have hbx : Below w6.heap.size w6 (w6.alloc (.cells #[.bool s.re.g, .string s.re.s, .int .i64 s.re.x, .bool s.im.g, .string s.im.s, .int .i64 s.im.x] 26)) := (Below.refl _ _).alloc (Nat.le_refl _) _
        have HA3 := Lib.hid ((HA1.out.below hb6).below hbx)
        have BM3 := Lib.hid (Blk.below (Blk.below BM.out hb6 (Blk.lt BM.out)) hbx (Blk.lt (Blk.below BM.out hb6 (Blk.lt BM.out))))
        have HB3 := Lib.hid (below_chain (below_chain HB1.out hb6) hbx)
        clear hb6 HB1 HA1 KS hbx BM
        go_wp2_with fail
        rw [← HME.out]
        generalize w6.alloc (.cells #[.bool s.re.g, .string s.re.s, .int .i64 s.re.x, .bool s.im.g, .string s.im.s, .int .i64 s.im.x] 26) = w7 at *
        obtain ⟨B, hB⟩ : ∃ B, B = w6.heap.size := ⟨_, rfl⟩
        rw [← hB] at BX ⊢
        clear hB
        obtain ⟨_, _, d0, d1, d2, d3, d4, d5⟩ := HA3.out
        have m0 : w7.cell? ⟨M, 0, none⟩ = some (.bool false) := (Blk.cell BM3.out 0).trans rfl
        have m1 : w7.cell? ⟨M, 1, none⟩ = some (.string ⟨#[]⟩) := (Blk.cell BM3.out 1).trans rfl
        have m2 : w7.cell? ⟨M, 2, none⟩ = some (.int .i64 77) := (Blk.cell BM3.out 2).trans rfl
        have m3 : w7.cell? ⟨M, 3, none⟩ = some (.bool false) := (Blk.cell BM3.out 3).trans rfl
        have m4 : w7.cell? ⟨M, 4, none⟩ = some (.string ⟨#[]⟩) := (Blk.cell BM3.out 4).trans rfl
        have m5 : w7.cell? ⟨M, 5, none⟩ = some (.int .i64 0) := (Blk.cell BM3.out 5).trans rfl
        go_quiet (fail)
        have hq8 : Below w7.heap.size w7 (w7.drewN nq) := below_drewN (Below.refl _ _) nq
        have HA8 := Lib.hid (HA3.out.below hq8)
        have BX8 := Lib.hid (BX.out.step hq8)
        have HB8 := Lib.hid (below_chain HB3.out hq8)
        clear d0 d1 d2 d3 d4 d5 m0 m1 m2 m3 m4 m5 hq8 HA3 BX HB3 BM3
        generalize w7.drewN nq = w8 at *
        go_wp2_with fail
        go_loopw [16, 17] (fun vm vi wr => ∃ (j : Nat) (m : Bool), j ≤ n ∧ vi = .int .i64 j ∧ vm = .bool m ∧ Hid (m = true ↔ ∀ q (h : q < l.length), q < j → l[q].Ok) ∧ Below w8.heap.size w8 wr) (fun _ vi _ => n - (intOf vi).toNat)
        case atStart => exact ⟨0, true, Nat.zero_le _, rfl, rfl, Lib.hid ⟨fun _ q _ h => absurd h (by omega), fun _ => rfl⟩, Below.refl _ _⟩
        case round =>
          obtain ⟨j, m, hj, rfl, rfl, hm, hb⟩ := hrel
          by_cases hlt : j < n
          · have hjl : j < l.length := by have := HN.out; omega
            obtain ⟨ad, rfl, _⟩ := HD.out.att hjl (below_chain HB8.out hb)
            have hHD := HD.out
            have hHA := HA8.out
            have hHB := HB8.out
            have CD := Lib.hid (fun W (hW : Below w8.heap.size w8 W) => And.intro (hHD.ats hjl (below_chain hHB hW)) ((hHA.below hW).2.1 j hjl))
            have HOKJ : Hid (l[j].Ok → (∀ q (h : q < l.length), q < j → l[q].Ok) → ∀ q (h : q < l.length), q < j + 1 → l[q].Ok) := Lib.hid (fun h1 h2 q hq hlt2 => by
              rcases Nat.lt_or_ge q j with h3 | h3
              · exact h2 q hq h3
              · obtain rfl : q = j := by omega
                exact h1)
            have HOKB : Hid ((∀ q (h : q < l.length), q < j + 1 → l[q].Ok) → l[j].Ok ∧ ∀ q (h : q < l.length), q < j → l[q].Ok) := Lib.hid (fun h => ⟨h j hjl (by omega), fun q hq hlt2 => h q hq (by omega)⟩)
            have hsj := HS.out _ (List.getElem_mem hjl)
            have ea := add_plain0 G (j * 6)
            have hja : j < n + 1 := by omega
            have HLT := Lib.hid hlt
            clear hHD hHA hHB
            cases m with
            | true =>
              obtain ⟨b2, hb2⟩ : ∃ b2 : Bool, b2 = true ↔ l[j].Ok := by
                classical
                exact ⟨decide l[j].Ok, by simp⟩
              have K := Lib.hid (fun W => rMay6_b l[j] W hsj b2 hb2)
              have HM2 : Hid (b2 = true ↔ ∀ q (h : q < l.length), q < j + 1 → l[q].Ok) := Lib.hid ⟨fun h => HOKJ.out (hb2.1 h) (hm.out.1 rfl), fun h => hb2.2 (HOKB.out h).1⟩
              obtain ⟨⟨c0, c1, c2, c3, c4, c5⟩, _⟩ := CD.out _ hb
              clear HOKJ HOKB hb2 hsj hm
              generalize l[j] = d at *
              clear hjl hlt
              go_wp2_with fail
              refine (K.out _).mono ?_
              rintro e w9 ⟨rfl, hb9⟩
              have hb10 := below_chain hb hb9
              clear c0 c1 c2 c3 c4 c5
              obtain ⟨⟨c0, c1, c2, c3, c4, c5⟩, d0, d1, d2, d3, d4, d5⟩ := CD.out _ hb10
              clear hb9
              go_wp2_with fail
              go_quiet (fail)
              go_wp2_with fail
              go_roundw
              case rel => exact ⟨j + 1, b2, by have := HLT.out; omega, by go_num, rfl, HM2, below_drewN hb10 _⟩
              case measure => have := HLT.out; simp [intOf]; omega
            | false =>
              have HM2 : Hid (false = true ↔ ∀ q (h : q < l.length), q < j + 1 → l[q].Ok) := Lib.hid ⟨fun h => absurd h (by decide), fun h => hm.out.2 (HOKB.out h).2⟩
              obtain ⟨⟨c0, c1, c2, c3, c4, c5⟩, d0, d1, d2, d3, d4, d5⟩ := CD.out _ hb
              clear HOKJ HOKB hsj hm
              generalize l[j] = d at *
              clear hjl hlt
              go_wp2_with fail
              go_quiet (fail)
              go_wp2_with fail
              go_roundw
              case rel => exact ⟨j + 1, false, by have := HLT.out; omega, by go_num, rfl, HM2, below_drewN hb _⟩
              case measure => have := HLT.out; simp [intOf]; omega
          · obtain rfl : n = j := by omega
            have hbW := below_chain HB8.out hb
            cases m with
            | true =>
              have hall : ∀ t ∈ l, t.Ok := fun t ht => by
                obtain ⟨q, hq, rfl⟩ := List.getElem_of_mem ht
                exact hm.out.1 rfl q hq (by have := HN.out; omega)
              have k2 : Hid (∀ W, Below w.heap.size w W → Calls Tryz.prog 11 #[.slice A n c] W fun e w' => e = .returned (.tuple #[.agg #[.bool s.re.g, .string s.re.s, .int .i64 s.re.x, .bool s.im.g, .string s.im.s, .int .i64 s.im.x], .int .i64 F]) ∧ Below W.heap.size W w') := Lib.hid (by
                rcases HC.out with ⟨_, h⟩ | ⟨⟨t, ht, hno⟩, _⟩
                · exact h
                · exact absurd (hall t ht) hno)
              clear hall hm hlt hj
              go_wp2_with fail
              refine (k2.out _ hbW).mono ?_
              rintro e w9 ⟨rfl, hb9⟩
              have BX9 := Lib.hid (((BX8.out.step hb).step hb9).more (.cells #[.bool s.re.g, .string s.re.s, .int .i64 s.re.x, .bool s.im.g, .string s.im.s, .int .i64 s.im.x] 26))
              have BY := Lib.hid (Box6.new w9 (.bool s.re.g) (.string s.re.s) (.int .i64 s.re.x) (.bool s.im.g) (.string s.im.s) (.int .i64 s.im.x))
              have hbt := below_chain hbW hb9
              have HB9 := Lib.hid (hbt.alloc hbt.size (.cells #[.bool s.re.g, .string s.re.s, .int .i64 s.re.x, .bool s.im.g, .string s.im.s, .int .i64 s.im.x] 26))
              obtain ⟨x0, x1, x2, x3, x4, x5, x6, x7, x8, x9, x10, x11, x12⟩ := BX9.out.facts
              clear hb9 hbt hb hbW
              go_wp2_with fail
              refine (same6_c s F _).mono ?_
              rintro e w10 ⟨rfl, hb10⟩
              have hb11 := below_chain HB9.out hb10
              clear hb10 x0 x1 x2 x3 x4 x5 x6 x7 x8 x9 x10 x11 x12
              go_wp2_with fail
              refine (awake6_c _ (HG.out.below hb11 (Nat.le_refl _))).mono ?_
              rintro e w12 ⟨rfl, hb12⟩
              go_wp2_with fail
              go_ret
              exact ⟨rfl, below_chain hb11 hb12⟩
            | false =>
              have KN2 : Hid (∀ W, Calls Tryz.prog 6 #[.agg #[.bool s.re.g, .string s.re.s, .int .i64 s.re.x, .bool s.im.g, .string s.im.s, .int .i64 s.im.x], .int .i64 F] W fun e w' => e = .returned (.bool true) ∧ Below W.heap.size W w') := Lib.hid (by
                rcases HC.out with ⟨h, _⟩ | ⟨_, rfl, rfl⟩
                · exact absurd (hm.out.2 (fun q hq _ => h _ (List.getElem_mem hq))) Bool.false_ne_true
                · exact none6_c)
              obtain ⟨x0, x1, x2, x3, x4, x5, x6, x7, x8, x9, x10, x11, x12⟩ := (BX8.out.step hb).facts
              clear hm hlt hj
              go_wp2_with fail
              refine (KN2.out _).mono ?_
              rintro e w10 ⟨rfl, hb10⟩
              have hb11 := below_chain hbW hb10
              clear hb10 x0 x1 x2 x3 x4 x5 x6 x7 x8 x9 x10 x11 x12
              go_wp2_with fail
              refine (awake6_c _ (HG.out.below hb11 (Nat.le_refl _))).mono ?_
              rintro e w12 ⟨rfl, hb12⟩
              go_wp2_with fail
              go_ret
              exact ⟨rfl, below_chain hb11 hb12⟩
  · obtain rfl : b = false := by
      cases b with
      | false => rfl
      | true => exact absurd (hb0.1 rfl) hno
    clear hno hb0
    have KN : Hid (∀ W, Calls Tryz.prog 6 #[.agg #[.bool p.re.g, .string p.re.s, .int .i64 p.re.x, .bool p.im.g, .string p.im.s, .int .i64 p.im.x], .int .i64 E] W fun e w' => e = .returned (.bool true) ∧ Below W.heap.size W w') := Lib.hid (by
      obtain ⟨rfl, rfl⟩ := hp2
      exact none6_c)
    clear hp2
    go_wp2_with fail
    refine (KN.out _).mono ?_
    rintro e w4 ⟨rfl, hb4⟩
    have HB4 := Lib.hid (below_chain HB2.out hb4)
    clear x0 x1 x2 x3 x4 x5 x6 x7 x8 x9 x10 x11 x12 y0 y1 y2 y3 y4 y5 y6 y7 y8 y9 y10 y11 y12 hb4 HB2 BA2 BX2 KN
    go_wp2_with (at_make; go_loud (refine wpList_makeG l _ rfl _ _ _ rfl i0 Tryz.underlying27 hi0 hz0 hj1 .i64 .i64 _ _ n rfl rfl (by omega) (by omega) (by rw [hj2]; omega) (by unfold maxLen; omega) ?_); intro w0 hown0 hb0)
    obtain ⟨G, hG⟩ : ∃ G, G = w4.heap.size := ⟨_, rfl⟩
    rw [← hG] at hown0 ⊢
    have hbw : Below w.heap.size w w0 := below_chain HB4.out hb0
    have hGw : w.heap.size ≤ G := by rw [hG]; exact HB4.out.size
    clear hb0 hG
    go_loopw [12] (fun i wr => ∃ j : Nat, j ≤ n ∧ i = .int .i64 j ∧ Hid (OwnGs wr G n l j) ∧ Below w.heap.size w wr) (fun i _ => n - (intOf i).toNat)
    case atStart => exact ⟨0, Nat.zero_le _, rfl, Lib.hid hown0, hbw⟩
    case round =>
      clear hown0 hbw
      obtain ⟨j, hj, rfl, hown, hb⟩ := hrel
      by_cases hlt : j < n
      · have hjl : j < l.length := by have := HN.out; omega
        obtain ⟨ad, rfl, c0, c1, c2, c3, c4, c5⟩ := HD.out.att hjl hb
        have R0 := Lib.hid (hown.out.room (i := j * 6) (by omega))
        have R1 := Lib.hid (hown.out.room (i := j * 6 + 1) (by omega))
        have R2 := Lib.hid (hown.out.room (i := j * 6 + 2) (by omega))
        have R3 := Lib.hid (hown.out.room (i := j * 6 + 3) (by omega))
        have R4 := Lib.hid (hown.out.room (i := j * 6 + 4) (by omega))
        have R5 := Lib.hid (hown.out.room (i := j * 6 + 5) (by omega))
        have HP := Lib.hid (hown.out.put hlt hjl)
        have ea := add_plain0 G (j * 6)
        have hja : j < n + 1 := by omega
        clear hown
        generalize l[j] = d at *
        have HLT := Lib.hid hlt
        have HB := Lib.hid hb
        clear hjl hlt
        go_wp2_with (refine wpList_storeH G (j * 6) rfl 26 (Operand.tmp 61) (Operand.tmp 60) rfl (.bool d.re.g) (.string d.re.s) (.int .i64 d.re.x) (.bool d.im.g) (.string d.im.s) (.int .i64 d.im.x) rfl rfl rfl rfl rfl rfl rfl rfl (by rw [hi0]; exact congrArg some hj1) ?_ ?_ ?_ ?_ ?_ ?_ ?_; exact R0.out; exact R1.out; exact R2.out; exact R3.out; exact R4.out; exact R5.out; intro W hW; subst hW)
        go_roundw
        case rel => exact ⟨j + 1, by have := HLT.out; omega, by go_num, HP, below_six hb hGw _ _ _ _ _ _⟩
        case measure => have := HLT.out; simp [intOf]; omega
      · obtain rfl : n = j := by omega
        obtain ⟨w5, rfl⟩ : ∃ x, x = wr := ⟨_, rfl⟩
        have R0 := Lib.hid ((hown.out.below ((Below.refl _ _).alloc (Nat.le_refl _) (.cells #[.bool false, .string ⟨#[]⟩, .int .i64 77, .bool false, .string ⟨#[]⟩, .int .i64 0] 26))).room (i := n * 6) (by omega))
        have R1 := Lib.hid ((hown.out.below ((Below.refl _ _).alloc (Nat.le_refl _) (.cells #[.bool false, .string ⟨#[]⟩, .int .i64 77, .bool false, .string ⟨#[]⟩, .int .i64 0] 26))).room (i := n * 6 + 1) (by omega))
        have R2 := Lib.hid ((hown.out.below ((Below.refl _ _).alloc (Nat.le_refl _) (.cells #[.bool false, .string ⟨#[]⟩, .int .i64 77, .bool false, .string ⟨#[]⟩, .int .i64 0] 26))).room (i := n * 6 + 2) (by omega))
        have R3 := Lib.hid ((hown.out.below ((Below.refl _ _).alloc (Nat.le_refl _) (.cells #[.bool false, .string ⟨#[]⟩, .int .i64 77, .bool false, .string ⟨#[]⟩, .int .i64 0] 26))).room (i := n * 6 + 3) (by omega))
        have R4 := Lib.hid ((hown.out.below ((Below.refl _ _).alloc (Nat.le_refl _) (.cells #[.bool false, .string ⟨#[]⟩, .int .i64 77, .bool false, .string ⟨#[]⟩, .int .i64 0] 26))).room (i := n * 6 + 4) (by omega))
        have R5 := Lib.hid ((hown.out.below ((Below.refl _ _).alloc (Nat.le_refl _) (.cells #[.bool false, .string ⟨#[]⟩, .int .i64 77, .bool false, .string ⟨#[]⟩, .int .i64 0] 26))).room (i := n * 6 + 5) (by omega))
        have HA1 := Lib.hid ((hown.out.below ((Below.refl _ _).alloc (Nat.le_refl _) (.cells #[.bool false, .string ⟨#[]⟩, .int .i64 77, .bool false, .string ⟨#[]⟩, .int .i64 0] 26))).all_ HN.out)
        have ea := add_plain0 G (n * 6)
        have hB0 : Below w.heap.size w (w5.alloc (.cells #[.bool false, .string ⟨#[]⟩, .int .i64 77, .bool false, .string ⟨#[]⟩, .int .i64 0] 26)) := hb.alloc hb.size _
        have hB1 := below_six (i0 := n * 6) (i1 := n * 6 + 1) (i2 := n * 6 + 2) (i3 := n * 6 + 3) (i4 := n * 6 + 4) (i5 := n * 6 + 5) hB0 hGw (.bool false) (.string ⟨#[]⟩) (.int .i64 77) (.bool false) (.string ⟨#[]⟩) (.int .i64 0)
        have HB1 := Lib.hid hB1
        have hna : n < n + 1 := by omega
        have hGM : w5.heap.size ≠ G := Nat.ne_of_gt hown.out.lt
        have BM := Lib.hid (Blk.far (Blk.far (Blk.far (Blk.far (Blk.far (Blk.far (Blk.new w5 26 #[.bool false, .string ⟨#[]⟩, .int .i64 77, .bool false, .string ⟨#[]⟩, .int .i64 0]) (p := ⟨G, n * 6, none⟩) hGM (.bool false)) (p := ⟨G, n * 6 + 1, none⟩) hGM (.string ⟨#[]⟩)) (p := ⟨G, n * 6 + 2, none⟩) hGM (.int .i64 77)) (p := ⟨G, n * 6 + 3, none⟩) hGM (.bool false)) (p := ⟨G, n * 6 + 4, none⟩) hGM (.string ⟨#[]⟩)) (p := ⟨G, n * 6 + 5, none⟩) hGM (.int .i64 0))
        obtain ⟨M, hM⟩ : ∃ M, M = w5.heap.size := ⟨_, rfl⟩
        have HME := Lib.hid hM
        rw [← hM] at BM
        clear hown hlt hj hB1 hb hM hGM
        go_wp2_with (refine wpList_storeH G (n * 6) rfl 26 (Operand.tmp 68) (Operand.tmp 67) rfl (.bool false) (.string ⟨#[]⟩) (.int .i64 77) (.bool false) (.string ⟨#[]⟩) (.int .i64 0) rfl rfl rfl rfl rfl rfl rfl rfl (by rw [hi0]; exact congrArg some hj1) ?_ ?_ ?_ ?_ ?_ ?_ ?_; exact R0.out; exact R1.out; exact R2.out; exact R3.out; exact R4.out; exact R5.out; intro W hW; rw [← hW] at HA1 HB1 BM; clear hW R0 R1 R2 R3 R4 R5)
        refine (KS.out _ G HB1.out HA1.out).mono ?_
        rintro e w6 ⟨rfl, hb6⟩
        have BX := Lib.hid (Box6.new w6 (.bool s.re.g) (.string s.re.s) (.int .i64 s.re.x) (.bool s.im.g) (.string s.im.s) (.int .i64 s.im.x))
        have hbx : Below w6.heap.size w6 (w6.alloc (.cells #[.bool s.re.g, .string s.re.s, .int .i64 s.re.x, .bool s.im.g, .string s.im.s, .int .i64 s.im.x] 26)) := (Below.refl _ _).alloc (Nat.le_refl _) _
        have HA3 := Lib.hid ((HA1.out.below hb6).below hbx)
        have BM3 := Lib.hid (Blk.below (Blk.below BM.out hb6 (Blk.lt BM.out)) hbx (Blk.lt (Blk.below BM.out hb6 (Blk.lt BM.out))))
        have HB3 := Lib.hid (below_chain (below_chain HB1.out hb6) hbx)
        clear hb6 HB1 HA1 KS hbx BM
        go_wp2_with fail
        rw [← HME.out]
        generalize w6.alloc (.cells #[.bool s.re.g, .string s.re.s, .int .i64 s.re.x, .bool s.im.g, .string s.im.s, .int .i64 s.im.x] 26) = w7 at *
        obtain ⟨B, hB⟩ : ∃ B, B = w6.heap.size := ⟨_, rfl⟩
        rw [← hB] at BX ⊢
        clear hB
        obtain ⟨_, _, d0, d1, d2, d3, d4, d5⟩ := HA3.out
        have m0 : w7.cell? ⟨M, 0, none⟩ = some (.bool false) := (Blk.cell BM3.out 0).trans rfl
        have m1 : w7.cell? ⟨M, 1, none⟩ = some (.string ⟨#[]⟩) := (Blk.cell BM3.out 1).trans rfl
        have m2 : w7.cell? ⟨M, 2, none⟩ = some (.int .i64 77) := (Blk.cell BM3.out 2).trans rfl
        have m3 : w7.cell? ⟨M, 3, none⟩ = some (.bool false) := (Blk.cell BM3.out 3).trans rfl
        have m4 : w7.cell? ⟨M, 4, none⟩ = some (.string ⟨#[]⟩) := (Blk.cell BM3.out 4).trans rfl
        have m5 : w7.cell? ⟨M, 5, none⟩ = some (.int .i64 0) := (Blk.cell BM3.out 5).trans rfl
        go_quiet (fail)
        have hq8 : Below w7.heap.size w7 (w7.drewN nq) := below_drewN (Below.refl _ _) nq
        have HA8 := Lib.hid (HA3.out.below hq8)
        have BX8 := Lib.hid (BX.out.step hq8)
        have HB8 := Lib.hid (below_chain HB3.out hq8)
        clear d0 d1 d2 d3 d4 d5 m0 m1 m2 m3 m4 m5 hq8 HA3 BX HB3 BM3
        generalize w7.drewN nq = w8 at *
        go_wp2_with fail
        go_loopw [16, 17] (fun vm vi wr => ∃ (j : Nat) (m : Bool), j ≤ n ∧ vi = .int .i64 j ∧ vm = .bool m ∧ Hid (m = true ↔ ∀ q (h : q < l.length), q < j → l[q].Ok) ∧ Below w8.heap.size w8 wr) (fun _ vi _ => n - (intOf vi).toNat)
        case atStart => exact ⟨0, true, Nat.zero_le _, rfl, rfl, Lib.hid ⟨fun _ q _ h => absurd h (by omega), fun _ => rfl⟩, Below.refl _ _⟩
        case round =>
          obtain ⟨j, m, hj, rfl, rfl, hm, hb⟩ := hrel
          by_cases hlt : j < n
          · have hjl : j < l.length := by have := HN.out; omega
            obtain ⟨ad, rfl, _⟩ := HD.out.att hjl (below_chain HB8.out hb)
            have hHD := HD.out
            have hHA := HA8.out
            have hHB := HB8.out
            have CD := Lib.hid (fun W (hW : Below w8.heap.size w8 W) => And.intro (hHD.ats hjl (below_chain hHB hW)) ((hHA.below hW).2.1 j hjl))
            have HOKJ : Hid (l[j].Ok → (∀ q (h : q < l.length), q < j → l[q].Ok) → ∀ q (h : q < l.length), q < j + 1 → l[q].Ok) := Lib.hid (fun h1 h2 q hq hlt2 => by
              rcases Nat.lt_or_ge q j with h3 | h3
              · exact h2 q hq h3
              · obtain rfl : q = j := by omega
                exact h1)
            have HOKB : Hid ((∀ q (h : q < l.length), q < j + 1 → l[q].Ok) → l[j].Ok ∧ ∀ q (h : q < l.length), q < j → l[q].Ok) := Lib.hid (fun h => ⟨h j hjl (by omega), fun q hq hlt2 => h q hq (by omega)⟩)
            have hsj := HS.out _ (List.getElem_mem hjl)
            have ea := add_plain0 G (j * 6)
            have hja : j < n + 1 := by omega
            have HLT := Lib.hid hlt
            clear hHD hHA hHB
            cases m with
            | true =>
              obtain ⟨b2, hb2⟩ : ∃ b2 : Bool, b2 = true ↔ l[j].Ok := by
                classical
                exact ⟨decide l[j].Ok, by simp⟩
              have K := Lib.hid (fun W => rMay6_b l[j] W hsj b2 hb2)
              have HM2 : Hid (b2 = true ↔ ∀ q (h : q < l.length), q < j + 1 → l[q].Ok) := Lib.hid ⟨fun h => HOKJ.out (hb2.1 h) (hm.out.1 rfl), fun h => hb2.2 (HOKB.out h).1⟩
              obtain ⟨⟨c0, c1, c2, c3, c4, c5⟩, _⟩ := CD.out _ hb
              clear HOKJ HOKB hb2 hsj hm
              generalize l[j] = d at *
              clear hjl hlt
              go_wp2_with fail
              refine (K.out _).mono ?_
              rintro e w9 ⟨rfl, hb9⟩
              have hb10 := below_chain hb hb9
              clear c0 c1 c2 c3 c4 c5
              obtain ⟨⟨c0, c1, c2, c3, c4, c5⟩, d0, d1, d2, d3, d4, d5⟩ := CD.out _ hb10
              clear hb9
              go_wp2_with fail
              go_quiet (fail)
              go_wp2_with fail
              go_roundw
              case rel => exact ⟨j + 1, b2, by have := HLT.out; omega, by go_num, rfl, HM2, below_drewN hb10 _⟩
              case measure => have := HLT.out; simp [intOf]; omega
            | false =>
              have HM2 : Hid (false = true ↔ ∀ q (h : q < l.length), q < j + 1 → l[q].Ok) := Lib.hid ⟨fun h => absurd h (by decide), fun h => hm.out.2 (HOKB.out h).2⟩
              obtain ⟨⟨c0, c1, c2, c3, c4, c5⟩, d0, d1, d2, d3, d4, d5⟩ := CD.out _ hb
              clear HOKJ HOKB hsj hm
              generalize l[j] = d at *
              clear hjl hlt
              go_wp2_with fail
              go_quiet (fail)
              go_wp2_with fail
              go_roundw
              case rel => exact ⟨j + 1, false, by have := HLT.out; omega, by go_num, rfl, HM2, below_drewN hb _⟩
              case measure => have := HLT.out; simp [intOf]; omega
          · obtain rfl : n = j := by omega
            have hbW := below_chain HB8.out hb
            cases m with
            | true =>
              have hall : ∀ t ∈ l, t.Ok := fun t ht => by
                obtain ⟨q, hq, rfl⟩ := List.getElem_of_mem ht
                exact hm.out.1 rfl q hq (by have := HN.out; omega)
              have k2 : Hid (∀ W, Below w.heap.size w W → Calls Tryz.prog 11 #[.slice A n c] W fun e w' => e = .returned (.tuple #[.agg #[.bool s.re.g, .string s.re.s, .int .i64 s.re.x, .bool s.im.g, .string s.im.s, .int .i64 s.im.x], .int .i64 F]) ∧ Below W.heap.size W w') := Lib.hid (by
                rcases HC.out with ⟨_, h⟩ | ⟨⟨t, ht, hno⟩, _⟩
                · exact h
                · exact absurd (hall t ht) hno)
              clear hall hm hlt hj
              go_wp2_with fail
              refine (k2.out _ hbW).mono ?_
              rintro e w9 ⟨rfl, hb9⟩
              have BX9 := Lib.hid (((BX8.out.step hb).step hb9).more (.cells #[.bool s.re.g, .string s.re.s, .int .i64 s.re.x, .bool s.im.g, .string s.im.s, .int .i64 s.im.x] 26))
              have BY := Lib.hid (Box6.new w9 (.bool s.re.g) (.string s.re.s) (.int .i64 s.re.x) (.bool s.im.g) (.string s.im.s) (.int .i64 s.im.x))
              have hbt := below_chain hbW hb9
              have HB9 := Lib.hid (hbt.alloc hbt.size (.cells #[.bool s.re.g, .string s.re.s, .int .i64 s.re.x, .bool s.im.g, .string s.im.s, .int .i64 s.im.x] 26))
              obtain ⟨x0, x1, x2, x3, x4, x5, x6, x7, x8, x9, x10, x11, x12⟩ := BX9.out.facts
              clear hb9 hbt hb hbW
              go_wp2_with fail
              refine (same6_c s F _).mono ?_
              rintro e w10 ⟨rfl, hb10⟩
              have hb11 := below_chain HB9.out hb10
              clear hb10 x0 x1 x2 x3 x4 x5 x6 x7 x8 x9 x10 x11 x12
              go_wp2_with fail
              refine (awake6_c _ (HG.out.below hb11 (Nat.le_refl _))).mono ?_
              rintro e w12 ⟨rfl, hb12⟩
              go_wp2_with fail
              go_ret
              exact ⟨rfl, below_chain hb11 hb12⟩
            | false =>
              have KN2 : Hid (∀ W, Calls Tryz.prog 6 #[.agg #[.bool s.re.g, .string s.re.s, .int .i64 s.re.x, .bool s.im.g, .string s.im.s, .int .i64 s.im.x], .int .i64 F] W fun e w' => e = .returned (.bool true) ∧ Below W.heap.size W w') := Lib.hid (by
                rcases HC.out with ⟨h, _⟩ | ⟨_, rfl, rfl⟩
                · exact absurd (hm.out.2 (fun q hq _ => h _ (List.getElem_mem hq))) Bool.false_ne_true
                · exact none6_c)
              obtain ⟨x0, x1, x2, x3, x4, x5, x6, x7, x8, x9, x10, x11, x12⟩ := (BX8.out.step hb).facts
              clear hm hlt hj
              go_wp2_with fail
              refine (KN2.out _).mono ?_
              rintro e w10 ⟨rfl, hb10⟩
              have hb11 := below_chain hbW hb10
              clear hb10 x0 x1 x2 x3 x4 x5 x6 x7 x8 x9 x10 x11 x12
              go_wp2_with fail
              refine (awake6_c _ (HG.out.below hb11 (Nat.le_refl _))).mono ?_
              rintro e w12 ⟨rfl, hb12⟩
              go_wp2_with fail
              go_ret
              exact ⟨rfl, below_chain hb11 hb12⟩
end Go.Proofs.YtdknipaimfecaaaGreatDoor
namespace Go.Proofs.YtdknipaimfecaaaGreatDoor
open Go Go.RowKit Go.WideShapes Go.ChangeShapes
variable {H : Type} {enc : TypeId × Value → H} {P : Program}
theorem postBelow {f : Func} {s : ChangeSpec} {apart fresh handsOn again : Bool} {W W' : World} {args : Array Value} {v : Value} {ds gs : List (DataW H)} {places pa pv : List MemPlace}
    (whole : DataW.Whole enc P f.params.toList s.vars apart W args.toList ds gs places)
    (res : ∀ (b : Nat) (sp : Nat → Bool) (hd : Bool), DataW.TrodAll enc P W' b sp hd f.resultTypes.toList (v.resultList f.resultTypes.size) (s.fn H (ds ++ gs)).results [])
    (left : ∀ sp : Nat → Bool, (∀ p ∈ places, sp p.block = true) → DataW.TrodAll enc P W' 0 sp true f.params.toList args.toList (s.fn H (ds ++ gs)).args pa)
    (vars : ∀ sp : Nat → Bool, (∀ p ∈ places, sp p.block = true) → DataW.TrodVars enc P W' sp s.vars (s.fn H (ds ++ gs)).vars pv)
    (split : places = pa ++ pv) (below : Below W.heap.size W W')
    (ok : ∀ (j : Nat) (t : TypeId) (r : Value), f.resultTypes[j]? = some t → (v.resultList f.resultTypes.size)[j]? = some r → Value.okWide P W' .any 0 t r) :
    s.post enc P f apart fresh handsOn again W args v W' := by
  have old : ∀ p ∈ places, p.block < W.heap.size := fun p hp => whole.lt p hp
  have same : ∀ p ∈ places, (fun b => decide (b < W.heap.size)) p.block = true := fun p hp => decide_eq_true (old p hp)
  have kept : W.keptBut W' (fun p => p ∈ places ∧ p ∈ pa ++ pv) :=
    World.keptBut_mono (fun p hp => ⟨hp, split ▸ hp⟩) (below.frame (· ∈ places))
  have free : ∀ b off, MemPlace.cell b off ∈ pa ++ pv → W'.frozen? ⟨b, off, none⟩ = false := fun b off hp => by
    have hin : MemPlace.cell b off ∈ places := split ▸ hp
    rw [below.frozen (p := ⟨b, off, none⟩) (old _ hin)]
    obtain ⟨_, _, _, _, _, hz, _⟩ := whole
    exact hz b off hin
  have apartNow : apart = true → (pa ++ pv).Nodup := fun ha => by
    obtain ⟨_, _, _, _, _, _, hn⟩ := whole
    exact split ▸ hn ha
  refine ⟨ds, gs, places, [], pa, pv, whole, res _ _ _, left _ same, vars _ same, ?_, fun _ => ⟨ok, _, _, ([] ++ pa) ++ pv, ⟨[] ++ pa, pv, trodAll_append (left _ (fun _ _ => rfl)) (res _ _ _), vars _ (fun _ _ => rfl), rfl, ?_, ?_⟩, ?_⟩⟩
  · exact World.keptBut_mono (fun p hp => ⟨hp.1, Or.inr (List.mem_append.1 hp.2)⟩) kept
  · intro b off hp; exact free b off (by simpa using hp)
  · intro ha; simpa using apartNow ha
  · intro p hp _; rw [split]; simpa using hp
end Go.Proofs.YtdknipaimfecaaaGreatDoor
namespace Go.Proofs.YtdknipaimfecaaaGreatDoor
open Go.ChangeShapes Go.WideShapes Go.ChangeAt Go.RowKit Go.Joins
variable {H : Type} {enc : TypeId × Value → H}
def dyadD (H : Type) (g : Bool) (s : ByteArray) (x : Int) : DataW H := .agg [.lit (.bool g), .lit (.string s.data.toList), .lit (.int .i64 x)]
theorem int64_bounds {x : Int} (h : (Lit.int .i64 x).wf = true) : -9223372036854775808 ≤ x ∧ x ≤ 9223372036854775807 := by
  unfold Lit.wf at h
  rw [Bool.and_eq_true, decide_eq_true_iff, decide_eq_true_iff] at h
  exact h
end Go.Proofs.YtdknipaimfecaaaGreatDoor
namespace Go.Proofs.YtdknipaimfecaaaGreatDoor
open Go.ChangeShapes Go.WideShapes Go.ChangeAt Go.RowKit Go.Joins Go.Deep Go.ChangeMaps
variable {H : Type} {enc : TypeId × Value → H}
def gaussD (H : Type) (g : Bool) (s : ByteArray) (x : Int) (k : Bool) (r : ByteArray) (y : Int) : DataW H := .agg [dyadD H g s x, dyadD H k r y]
theorem array6 {α : Type} {cs : Array α} (h : cs.size = 6) : ∃ c0 c1 c2 c3 c4 c5, cs = #[c0, c1, c2, c3, c4, c5] := by
  obtain ⟨l⟩ := cs
  match l, h with
  | [c0, c1, c2, c3, c4, c5], _ => exact ⟨c0, c1, c2, c3, c4, c5, rfl⟩
theorem cDyad : Tryz.prog.cellsOf 24 = 3 := by kernel_rfl
theorem cGauss : Tryz.prog.cellsOf 26 = 6 := by kernel_rfl
theorem cBool1 : Tryz.prog.cellsOf 4 = 1 := by kernel_rfl
theorem cNat1 : Tryz.prog.cellsOf 22 = 1 := by kernel_rfl
theorem cInt1 : Tryz.prog.cellsOf 3 = 1 := by kernel_rfl
set_option maxRecDepth 100000 in
theorem trod_dyad {w : World} {base : Nat} {spare : Nat → Bool} {held : Bool} {n : Nat} {c0 c1 c2 : Value} {y : DataW H × List MemPlace} (h : DataW.trod enc Tryz.prog w base spare held n 24 [c0, c1, c2] = some y) :
    ∃ (g : Bool) (s : ByteArray) (x : Int), c0 = .bool g ∧ c1 = .string s ∧ c2 = .int .i64 x ∧ y = (dyadD H g s x, []) ∧ s.size ≤ maxLen ∧ (Lit.int .i64 x).wf = true := by
  obtain ⟨y0, y1, y2, m, rfl, _, h0, h1, h2⟩ := trod_struct3 Tryz.underlying24 h
  simp only [cBool1, cNat1, cInt1, List.drop_zero, List.take_succ_cons, List.take_zero, List.drop_succ_cons] at h0 h1 h2
  obtain ⟨g, e0, rfl⟩ := DataW.trod_bool Tryz.underlying4 h0
  obtain ⟨s, e1, rfl, hs⟩ := DataW.trod_string Tryz.underlying22 h1
  obtain ⟨x, e2, rfl, wx⟩ := DataW.trod_int Tryz.underlying3 h2
  simp at e0 e1 e2
  subst e0 e1 e2
  exact ⟨g, s, x, rfl, rfl, rfl, rfl, hs, wx⟩
set_option maxRecDepth 100000 in
theorem open_gauss {w : World} {base : Nat} {spare : Nat → Bool} {held : Bool} {r : Go.Reach} {b0 : Nat} {v : Value} {d : DataW H} {p : List MemPlace}
    (hv : Value.okWide Tryz.prog w r b0 26 v) (h : DataW.Trod enc Tryz.prog w base spare held 26 v d p) :
    ∃ (g : Bool) (s : ByteArray) (x : Int) (k : Bool) (q : ByteArray) (y : Int), v = .agg #[.bool g, .string s, .int .i64 x, .bool k, .string q, .int .i64 y] ∧ d = gaussD H g s x k q y ∧ p = [] ∧ (s.size ≤ maxLen ∧ (Lit.int .i64 x).wf = true) ∧ (q.size ≤ maxLen ∧ (Lit.int .i64 y).wf = true) := by
  obtain ⟨cs, rfl, hsz⟩ := okWide_struct Tryz.underlying26 hv
  obtain ⟨c0, c1, c2, c3, c4, c5, rfl⟩ := array6 (hsz.trans cGauss)
  obtain ⟨fuel, hf⟩ := h
  obtain ⟨y0, y1, n, hx, _, h0, h1⟩ := trod_struct2 Tryz.underlying26 hf
  simp only [Value.cells, cDyad, List.drop_zero, List.take_succ_cons, List.take_zero, List.drop_succ_cons] at h0 h1
  obtain ⟨g, s, x, rfl, rfl, rfl, rfl, hs, wx⟩ := trod_dyad h0
  obtain ⟨k, q, y, rfl, rfl, rfl, rfl, hq, wy⟩ := trod_dyad h1
  simp only [Prod.mk.injEq] at hx
  obtain ⟨hd, hp⟩ := hx
  exact ⟨g, s, x, k, q, y, rfl, hd, hp, ⟨hs, wx⟩, ⟨hq, wy⟩⟩
theorem shut_trod_dyad {W' : World} {b : Nat} {sp : Nat → Bool} {hd : Bool} {g : Bool} {s : ByteArray} {x : Int} (hs : s.size ≤ maxLen) (wx : (Lit.int .i64 x).wf = true) (n : Nat) :
    DataW.trod enc Tryz.prog W' b sp hd (n + 2) 24 [.bool g, .string s, .int .i64 x] = some (dyadD H g s x, []) := by
  have := trod_struct3_mk (enc := enc) (w := W') (base := b) (spare := sp) (held := hd) (n := n + 1) (cs := [.bool g, .string s, .int .i64 x]) (y0 := (.lit (.bool g), [])) (y1 := (.lit (.string s.data.toList), [])) (y2 := (.lit (.int .i64 x), [])) Tryz.underlying24 (by rw [cDyad]; rfl)
    (by simp [cBool1, DataW.trod, Tryz.underlying4]) (by simp [cNat1, DataW.trod, Tryz.underlying22, hs]) (by simp [cInt1, DataW.trod, Tryz.underlying3, wx])
  simpa [dyadD] using this
set_option maxRecDepth 100000 in
theorem shut_gauss {W' : World} {b : Nat} {sp : Nat → Bool} {hd : Bool} {g : Bool} {s : ByteArray} {x : Int} {k : Bool} {q : ByteArray} {y : Int} (h1 : s.size ≤ maxLen ∧ (Lit.int .i64 x).wf = true) (h2 : q.size ≤ maxLen ∧ (Lit.int .i64 y).wf = true) :
    DataW.Trod enc Tryz.prog W' b sp hd 26 (.agg #[.bool g, .string s, .int .i64 x, .bool k, .string q, .int .i64 y]) (gaussD H g s x k q y) [] := by
  refine ⟨3, ?_⟩
  have := trod_struct2_mk (enc := enc) (w := W') (base := b) (spare := sp) (held := hd) (n := 2) (cs := [.bool g, .string s, .int .i64 x, .bool k, .string q, .int .i64 y]) (y0 := (dyadD H g s x, [])) (y1 := (dyadD H k q y, [])) Tryz.underlying26 (by rw [cGauss]; rfl)
    (by simp only [cDyad, List.drop_zero, List.take_succ_cons, List.take_zero, List.drop_succ_cons]; exact shut_trod_dyad h1.1 h1.2 0) (by simp only [cDyad, List.drop_zero, List.take_succ_cons, List.take_zero, List.drop_succ_cons]; exact shut_trod_dyad h2.1 h2.2 0)
  simpa [gaussD, Value.cells] using this
end Go.Proofs.YtdknipaimfecaaaGreatDoor
