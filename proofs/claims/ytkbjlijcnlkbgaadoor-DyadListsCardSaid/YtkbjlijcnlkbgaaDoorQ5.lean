/- Texts put together: D73 D76 D77 Post DP. -/
import Derived.Test.YtkbjlijcnlkbgaaDoorQ4
import Derived.Deep.RegionLaw
import Derived.Below
import Derived.ChangeSame
import Derived.Test.YtkbjlijcnlkbgaaDoorRows
import Derived.ProofKit
import Derived.Lib.SmallJoins
import Derived.OpenShut
import Derived.ShutString
set_option linter.unusedSimpArgs false
set_option linter.unusedVariables false
namespace Go.Proofs.YtkbjlijcnlkbgaaDoor
open Go Go.RowKit Nt

theorem first_case {wr w2 : World} (h : Below wr.drew.heap.size wr.drew w2) : Below wr.heap.size wr w2 := ((Below.refl wr.heap.size wr).drew).trans h
theorem second_case {wr w2 : World} {o : Obj} (h : Below (wr.drew.alloc o).heap.size (wr.drew.alloc o) w2) : Below wr.heap.size wr w2 := (((Below.refl wr.heap.size wr).drew).alloc (Nat.le_refl _) o).trans (h.mono (by show wr.heap.size ≤ (wr.alloc o).heap.size; simp))
theorem third_case {wr w2 : World} {o : Obj} (h : Below ((wr.alloc o).drew).heap.size ((wr.alloc o).drew) w2) : Below wr.heap.size wr w2 := (((Below.refl wr.heap.size wr).alloc (Nat.le_refl _) o).drew).trans (h.mono (by show wr.heap.size ≤ (wr.alloc o).heap.size; simp))
theorem box_second {wr w2 : World} (h : Below ((wr.alloc (.cells #[.bool false, .string ⟨#[]⟩, .int .i64 0] 25)).drew).heap.size ((wr.alloc (.cells #[.bool false, .string ⟨#[]⟩, .int .i64 0] 25)).drew) w2) : Box3 w2 wr.heap.size (.bool false) (.string ⟨#[]⟩) (.int .i64 0) := Box3.step (w := (wr.alloc (.cells #[.bool false, .string ⟨#[]⟩, .int .i64 0] 25)).drew) (show Box3 ((wr.alloc _).drew) _ _ _ _ from Box3.new wr _ _ _) h
set_option maxRecDepth 100000 in
set_option maxHeartbeats 2000000 in
theorem rSum3_c (l : List Dy) (A : Option Addr) (c : Nat) (w : World) (hl : l.length ≤ 9223372036854775807) (hok : ∀ d ∈ l, d.Ok) (h : Dts w A (l.map Dy.t)) :
    Calls Tryd.prog 8 #[.slice A l.length c] w (SumPost l w) := by
  unfold SumPost
  have HD := Lib.hid h
  have HOK := Lib.hid hok
  obtain ⟨P, hP⟩ : ∃ P, P = w.heap.size + 1 := ⟨_, rfl⟩
  have HPE := Lib.hid hP
  have h2 : Below w.heap.size w ((w.alloc (.cells #[.bool false, .string ⟨#[]⟩, .int .i64 0] 25)).alloc (.cells #[.bool false, .string ⟨#[]⟩, .int .i64 0] 25)) := ((Below.refl _ _).alloc (Nat.le_refl _) _).alloc (by simp) _
  have e1 : (w.alloc (.cells #[.bool false, .string ⟨#[]⟩, .int .i64 0] 25)).heap.size = P := by rw [hP]; simp
  have b1 := (Box3.new w (.bool false) (.string ⟨#[]⟩) (.int .i64 0)).more (.cells #[.bool false, .string ⟨#[]⟩, .int .i64 0] 25)
  have b2 := Box3.new (w.alloc (.cells #[.bool false, .string ⟨#[]⟩, .int .i64 0] 25)) (.bool false) (.string ⟨#[]⟩) (.int .i64 0)
  rw [e1] at b2
  have hRP : w.heap.size < P := by omega
  have HB2 := Lib.hid h2
  have HBR := Lib.hid b1
  have HBP := Lib.hid b2
  clear h hok h2 b1 b2 e1
  go_enter Tryd.func8, Tryd.ntmps8
  go_wp2_with fail
  rw [← hP]
  clear hP
  go_loopw [5] (fun i wr => ∃ (k : Nat) (S : Dy), k ≤ l.length ∧ i = .int .i64 k ∧ Hid S.Ok ∧ Hid (sumsD Dy.zero l = sumsD S (l.drop k)) ∧ Hid (Box3 wr P (.bool S.g) (.string (natS S.n)) (.int .i64 S.x)) ∧ Hid (Box3 wr w.heap.size (.bool false) (.string ⟨#[]⟩) (.int .i64 0)) ∧ Below w.heap.size w wr) (fun i _ => l.length - (intOf i).toNat)
  case atStart =>
    refine ⟨0, Dy.zero, Nat.zero_le _, rfl, Lib.hid (Or.inl rfl), Lib.hid (by rw [List.drop_zero]), Lib.hid ?_, Lib.hid HBR.out, HB2.out⟩
    show Box3 _ P (.bool false) (.string (natS 0)) (.int .i64 0)
    rw [natS_zero]; exact HBP.out
  case round =>
    obtain ⟨k, S, hk, rfl, hS, hsum, hP, hR, hb⟩ := hrel
    by_cases hlt : k < l.length
    · obtain ⟨ad, rfl, c1, c2, c3⟩ := HD.out.at_ hlt hb
      have hbA : Below w.heap.size w ((wr.alloc (.cells #[.bool false, .string ⟨#[]⟩, .int .i64 0] 25)).drew) := (hb.alloc hb.size _).drew
      obtain ⟨ad', ead, f1, f2, f3⟩ := HD.out.at_ hlt hbA
      obtain rfl : ad = ad' := by injection ead
      have hPA := (hP.out.more (.cells #[.bool false, .string ⟨#[]⟩, .int .i64 0] 25)).facts
      have P1 : ((wr.alloc (.cells #[.bool false, .string ⟨#[]⟩, .int .i64 0] 25)).drew).cell? ⟨P, 0, none⟩ = some (.bool S.g) := hPA.2.1
      have P2 : ((wr.alloc (.cells #[.bool false, .string ⟨#[]⟩, .int .i64 0] 25)).drew).cell? ⟨P, 1, none⟩ = some (.string (natS S.n)) := hPA.2.2.1
      have P3 : ((wr.alloc (.cells #[.bool false, .string ⟨#[]⟩, .int .i64 0] 25)).drew).cell? ⟨P, 2, none⟩ = some (.int .i64 S.x) := hPA.2.2.2.1
      clear hPA hbA ead
      have hd := HOK.out _ (List.getElem_mem hlt)
      have hsd := hsum.out
      rw [drop_at hlt] at hsd
      generalize l[k] = d at *
      have KD := Lib.hid (fun W => rAdd3_c S d W hS.out hd)
      unfold AddPost at KD
      obtain ⟨p0, p1, p2, p3, p4, p5, p6⟩ := hP.out.facts
      have HLT := Lib.hid hlt
      have hDok := Lib.hid (add_Ok hS.out hd)
      have HBW := Lib.hid hb
      by_cases hE : addE S d = 0
      · rw [sumsD_on hE] at hsd
        rw [hE] at KD
        have HSD := Lib.hid hsd
        generalize addD S d = D at *
        clear hE hsd hd hlt hb
        go_wp2_with fail
        go_region_law (first
          | (go_simp; go_at_call 13; refine (KD.out _).mono ?_; rintro e w2 ⟨rfl, hb2⟩; have hb9 := first_case hb2; obtain ⟨q0, q1, q2, q3, q4, q5, q6⟩ := (hP.out.step hb9).facts; have HB9 := Lib.hid hb9; clear hb9; unfold Dy.v)
          | (go_simp; go_at_call 13; refine (KD.out _).mono ?_; rintro e w2 ⟨rfl, hb2⟩; have hb9 := third_case hb2; obtain ⟨q0, q1, q2, q3, q4, q5, q6⟩ := (hP.out.step hb9).facts; obtain ⟨z0, z1, z2, z3, z4, z5, z6⟩ := (box_second hb2).facts; have HB9 := Lib.hid hb9; clear hb9; unfold Dy.v)
          | (go_simp; go_at_call 13; refine (KD.out _).mono ?_; rintro e w2 ⟨rfl, hb2⟩; have hb9 := second_case hb2; obtain ⟨q0, q1, q2, q3, q4, q5, q6⟩ := (hP.out.step hb9).facts; have HB9 := Lib.hid hb9; clear hb9; unfold Dy.v))
        all_goals
          go_wp2_with fail
          go_roundw
          case rel =>
            have HLT' := HLT.out
            refine ⟨k + 1, D, by omega, ?_, hDok, HSD, ?_, ?_, ?_⟩
            · clear f1 f2 f3 c1 c2 c3 P1 P2 P3 p1 p2 p3 p4 p5 p6 q1 q2 q3 q4 q5 q6
              go_num
            · first
                | ((with_reducible refine Lib.hid (Box3.more ?_ _)); exact (hP.out.step HB9.out).put _ _ _)
                | ((with_reducible refine Lib.hid (Box3.put (a := .bool S.g) (b := .string (natS S.n)) (c := .int .i64 S.x) ?_ _ _ _)); exact (hP.out.step HB9.out).far (Nat.ne_of_lt p0) _ _ _)
            · first
                | ((with_reducible refine Lib.hid (Box3.more ?_ _)); exact (hR.out.step HB9.out).far (Nat.ne_of_lt hRP) _ _ _)
                | ((with_reducible refine Lib.hid (Box3.far ?_ (Nat.ne_of_lt hRP) _ _ _)); exact (hR.out.step HB9.out).far (Nat.ne_of_lt hR.out.facts.1) _ _ _)
            · have hch := below_chain HBW.out HB9.out
              first
                | (with_reducible refine Below.alloc ?_ ?_ _
                   · exact below_put hch (Nat.le_of_lt hRP) _ _ _
                   · exact (below_put hch (Nat.le_of_lt hRP) _ _ _).size)
                | exact below_put (below_put hch HBW.out.size _ _ _) (Nat.le_of_lt hRP) _ _ _
          case measure => have := HLT.out; simp [intOf]; omega
      · rw [sumsD_off hE] at hsd
        have HSD := Lib.hid hsd
        generalize addD S d = D at *
        generalize addE S d = E at *
        obtain ⟨r0, r1, r2, r3, r4, r5, r6⟩ := hR.out.facts
        clear hsd hd hlt hb
        go_wp2_with fail
        go_region_law (first
          | (go_simp; go_at_call 13; refine (KD.out _).mono ?_; rintro e w2 ⟨rfl, hb2⟩; have hb9 := first_case hb2; obtain ⟨y0, y1, y2, y3, y4, y5, y6⟩ := (((hR.out.step hb9).put (.bool false) (.string ⟨#[]⟩) (.int .i64 0)).more (.cells #[.bool D.g, .string (natS D.n), .int .i64 D.x] 25)).facts; obtain ⟨q0, q1, q2, q3, q4, q5, q6⟩ := (hP.out.step hb9).facts; obtain ⟨s0, s1, s2, s3, s4, s5, s6⟩ := (hR.out.step hb9).facts; have HB9 := Lib.hid hb9; clear hb9; unfold Dy.v)
          | (go_simp; go_at_call 13; refine (KD.out _).mono ?_; rintro e w2 ⟨rfl, hb2⟩; have hb9 := third_case hb2; obtain ⟨y0, y1, y2, y3, y4, y5, y6⟩ := ((hR.out.step hb9).far (Nat.ne_of_lt hR.out.facts.1) (.bool D.g) (.string (natS D.n)) (.int .i64 D.x)).facts; obtain ⟨q0, q1, q2, q3, q4, q5, q6⟩ := (hP.out.step hb9).facts; obtain ⟨z0, z1, z2, z3, z4, z5, z6⟩ := (box_second hb2).facts; obtain ⟨s0, s1, s2, s3, s4, s5, s6⟩ := (hR.out.step hb9).facts; have HB9 := Lib.hid hb9; clear hb9; unfold Dy.v)
          | (go_simp; go_at_call 13; refine (KD.out _).mono ?_; rintro e w2 ⟨rfl, hb2⟩; have hb9 := second_case hb2; obtain ⟨y0, y1, y2, y3, y4, y5, y6⟩ := ((hR.out.step hb9).far (Nat.ne_of_lt hR.out.facts.1) (.bool D.g) (.string (natS D.n)) (.int .i64 D.x)).facts; obtain ⟨q0, q1, q2, q3, q4, q5, q6⟩ := (hP.out.step hb9).facts; obtain ⟨s0, s1, s2, s3, s4, s5, s6⟩ := (hR.out.step hb9).facts; have HB9 := Lib.hid hb9; clear hb9; unfold Dy.v))
        all_goals
          go_wp2_with fail
          have hch := below_chain HBW.out HB9.out
          refine bodyPost_ret (v := .tuple #[.agg #[.bool false, .string ⟨#[]⟩, .int .i64 0], .int .i64 E]) (by simp [results, Tryd.results8, go_sem, y0, y1, y2, y3]) rfl ⟨?_, ?_⟩
          · rw [HSD.out]
            show _ = Ending.returned (.tuple #[Dy.zero.v, .int .i64 E])
            rw [Dy.zero_v]
          · first
              | (with_reducible refine Below.alloc ?_ ?_ _
                 · exact below_put hch (Nat.le_refl _) _ _ _
                 · exact (below_put hch (Nat.le_refl _) _ _ _).size)
              | exact below_put (below_put hch HBW.out.size _ _ _) (Nat.le_refl _) _ _ _
    · have hk2 : k = l.length := by omega
      have hsd := hsum.out
      rw [hk2, List.drop_length, sumsD_nil] at hsd
      have HSD := Lib.hid hsd
      obtain ⟨p0, p1, p2, p3, p4, p5, p6⟩ := hP.out.facts
      obtain ⟨r0, r1, r2, r3, r4, r5, r6⟩ := hR.out.facts
      clear hsd hk2
      go_wp2_with fail
      refine bodyPost_ret (v := .tuple #[.agg #[.bool S.g, .string (natS S.n), .int .i64 S.x], .int .i64 0]) (by simp [results, Tryd.results8, go_sem, r0, r1, r2, r3]) rfl ⟨?_, below_put hb (Nat.le_refl _) _ _ _⟩
      rw [HSD.out]
      rfl
end Go.Proofs.YtkbjlijcnlkbgaaDoor
set_option linter.unusedSimpArgs false
set_option linter.unusedVariables false
namespace Go.Proofs.YtkbjlijcnlkbgaaDoor
open Go Go.RowKit Nt

/-- What dyad.Sum gives of the call's own row; the document's Sum gives the same of the list that came in, where it may be. -/
theorem sums_both (l : List Dt) (A : Option Addr) (c n : Nat) (w : World) (hn : n = l.length) (hn2 : n ≤ 4398046511104) (hs : ∀ t ∈ l, t.s.size ≤ 9223372036854775807) (h : Dts w A l) (hG : Globs glT w) :
    ∃ (g0 : Bool) (s0 : ByteArray) (x0 e0 : Int),
      (∀ W, Below w.heap.size w W → OwnAll W w.heap.size n l → Calls Tryd.prog 4 #[.slice (some ⟨w.heap.size, 0, none⟩) n (n + 1)] W fun e w' => e = .returned (.tuple #[.agg #[.bool g0, .string s0, .int .i64 x0], .int .i64 e0]) ∧ Below W.heap.size W w') ∧
      (((∀ t ∈ l, t.Ok) ∧ ∀ W, Below w.heap.size w W → Calls Tryd.prog 8 #[.slice A n c] W fun e w' => e = .returned (.tuple #[.agg #[.bool g0, .string s0, .int .i64 x0], .int .i64 e0]) ∧ Below W.heap.size W w') ∨
       ((∃ t ∈ l, ¬ t.Ok) ∧ g0 = false ∧ s0 = ⟨#[]⟩ ∧ x0 = 0 ∧ e0 = 2)) := by
  by_cases ho : ∀ t ∈ l, t.Ok
  · obtain ⟨d, rfl, hd⟩ := Dts_dy ho
    rw [List.length_map] at hn
    subst hn
    refine ⟨(sumsD Dy.zero d).1.g, natS (sumsD Dy.zero d).1.n, (sumsD Dy.zero d).1.x, (sumsD Dy.zero d).2, fun W hW hA => ?_, Or.inl ⟨ho, fun W hW => ?_⟩⟩
    · exact (DSum_c d (some ⟨w.heap.size, 0, none⟩) (d.length + 1) W (by omega) hd hA.dts (hG.below hW (Nat.le_refl _)))
    · exact (rSum3_c d A c W (by omega) hd (h.below hW))
  · have hex : ∃ t ∈ l, ¬ t.Ok := Classical.byContradiction fun hc => ho fun t ht => Classical.byContradiction fun h2 => hc ⟨t, ht, h2⟩
    obtain ⟨t, ht, hno⟩ := hex
    refine ⟨false, ⟨#[]⟩, 0, 2, fun W hW hA => ?_, Or.inr ⟨⟨t, ht, hno⟩, rfl, rfl, rfl, rfl⟩⟩
    subst hn
    exact DSum_bad l _ _ W (by omega) hs hA.dts (dE_no ht hno)
end Go.Proofs.YtkbjlijcnlkbgaaDoor
set_option linter.unusedSimpArgs false
set_option linter.unusedVariables false
namespace Go.Proofs.YtkbjlijcnlkbgaaDoor
open Go Go.RowKit Nt

set_option maxRecDepth 1000000 in
set_option maxHeartbeats 4000000 in
theorem DyadLists_law (l : List Dt) (A : Option Addr) (c n : Nat) (w : World) (hn : n = l.length) (hn2 : n ≤ 4398046511104) (hs : ∀ t ∈ l, t.s.size ≤ 9223372036854775807) (h : Dts w A l) (hG : Globs glT w) :
    Calls Tryd.prog 3 #[.slice A n c] w fun e w' => e = .returned (.bool true) ∧ Below w.heap.size w w' := by
  obtain ⟨i0, hi0, hz0, hj1, hj2⟩ := info_parts (P := Tryd.prog) (e := 25) (z := .agg #[.bool false, .string ⟨#[]⟩, .int .i64 0]) (size := 3) (bytes := 32) (by kernel_rfl)
  obtain ⟨g0, s0, x0, e0, ks, hcase⟩ := sums_both l A c n w hn hn2 hs h hG
  have KS := Lib.hid ks
  have HC := Lib.hid hcase
  have HD := Lib.hid h
  have HS := Lib.hid hs
  have HG := Lib.hid hG
  have HN := Lib.hid hn
  have hn3 : (n : Int) ≤ 4398046511104 := by omega
  clear h hs hG hn ks hcase
  go_enter Tryd.func3, Tryd.ntmps3
  go_wp2_with (at_make; go_loud (refine wpList_makeD l _ rfl _ _ _ rfl i0 Tryd.underlying22 hi0 hz0 hj1 .i64 .i64 _ _ n rfl rfl (by omega) (by omega) (by rw [hj2]; omega) (by unfold maxLen; omega) ?_); intro w0 hown0 hb0)
  go_loopw [4] (fun i wr => ∃ j : Nat, j ≤ n ∧ i = .int .i64 j ∧ Hid (OwnDs wr w.heap.size n l j) ∧ Below w.heap.size w wr) (fun i _ => n - (intOf i).toNat)
  case atStart => exact ⟨0, Nat.zero_le _, rfl, Lib.hid hown0, hb0⟩
  case round =>
    clear hown0 hb0
    obtain ⟨j, hj, rfl, hown, hb⟩ := hrel
    by_cases hlt : j < n
    · have hjl : j < l.length := by have := HN.out; omega
      obtain ⟨ad, rfl, hblk, hcl⟩ := (HD.out.below hb) (by omega)
      obtain ⟨c1, c2, c3⟩ := hcl j hjl
      obtain ⟨r0, f0⟩ := hown.out.room (i := j * 3) (by omega)
      obtain ⟨r1, f1⟩ := hown.out.room (i := j * 3 + 1) (by omega)
      obtain ⟨r2, f2⟩ := hown.out.room (i := j * 3 + 2) (by omega)
      have HP := Lib.hid (hown.out.put hlt hjl)
      have ea := add_plain0 w.heap.size (j * 3)
      have hja : j < n + 1 := by omega
      clear hcl hblk hown
      generalize l[j] = d at *
      have HLT := Lib.hid hlt
      have R0 := Lib.hid (And.intro r0 f0)
      have R1 := Lib.hid (And.intro r1 f1)
      have R2 := Lib.hid (And.intro r2 f2)
      have HB := Lib.hid hb
      clear hjl hlt r0 f0 r1 f1 r2 f2
      go_wp2_with (refine wpList_storeD w.heap.size (j * 3) rfl _ _ _ rfl (.bool d.g) (.string d.s) (.int .i64 d.x) rfl rfl rfl rfl rfl (by rw [hi0]; exact congrArg some hj1) R0.out R1.out R2.out ?_; intro W hW; subst hW)
      go_roundw
      case rel => exact ⟨j + 1, by have := HLT.out; omega, by go_num, HP, below_three hb (Nat.le_refl _) _ _ _⟩
      case measure => have := HLT.out; simp [intOf]; omega
    · obtain rfl : n = j := by omega
      obtain ⟨w1, rfl⟩ : ∃ x, x = wr := ⟨_, rfl⟩
      obtain ⟨r0, f0⟩ := hown.out.room (i := n * 3) (by omega)
      obtain ⟨r1, f1⟩ := hown.out.room (i := n * 3 + 1) (by omega)
      obtain ⟨r2, f2⟩ := hown.out.room (i := n * 3 + 2) (by omega)
      have HA1 := Lib.hid (hown.out.all_ HN.out)
      have ea := add_plain0 w.heap.size (n * 3)
      have hB1 := below_three (i := n * 3) (j := n * 3 + 1) (k := n * 3 + 2) hb (Nat.le_refl _) (.bool false) (.string ⟨#[]⟩) (.int .i64 77)
      have HB1 := Lib.hid hB1
      have hna : n < n + 1 := by omega
      have R0 := Lib.hid (And.intro r0 f0)
      have R1 := Lib.hid (And.intro r1 f1)
      have R2 := Lib.hid (And.intro r2 f2)
      clear hown hlt hj hB1 hb r0 f0 r1 f1 r2 f2
      go_wp2_with (refine wpList_storeD w.heap.size (n * 3) rfl _ _ _ rfl (.bool false) (.string ⟨#[]⟩) (.int .i64 77) rfl rfl rfl rfl rfl (by rw [hi0]; exact congrArg some hj1) R0.out R1.out R2.out ?_; intro W hW; rw [← hW] at HA1 HB1; clear hW R0 R1 R2)
      refine (KS.out _ HB1.out HA1.out).mono ?_
      rintro e w2 ⟨rfl, hb2⟩
      have X := Lib.hid (Box3.new w2 (.bool g0) (.string s0) (.int .i64 x0))
      have HA3 := Lib.hid ((HA1.out.below hb2).below (show Below w2.heap.size w2 (w2.alloc (.cells #[.bool g0, .string s0, .int .i64 x0] 25)) from (Below.refl _ _).alloc (Nat.le_refl _) _))
      have HB3 := Lib.hid ((below_chain HB1.out hb2).alloc (below_chain HB1.out hb2).size (.cells #[.bool g0, .string s0, .int .i64 x0] 25))
      clear hb2 HB1 HA1 KS
      go_wp2_with fail
      generalize w2.alloc (.cells #[.bool g0, .string s0, .int .i64 x0] 25) = w3 at *
      generalize w2.heap.size = B at *
      go_loopw [7] (fun i wr => ∃ j : Nat, j ≤ n ∧ i = .int .i64 j ∧ Below w3.heap.size w3 wr) (fun i _ => n - (intOf i).toNat)
      case atStart => exact ⟨0, Nat.zero_le _, rfl, Below.refl _ _⟩
      case round =>
        obtain ⟨j, hj, rfl, hb4⟩ := hrel
        by_cases hlt : j < n
        · have hjl : j < l.length := by have := HN.out; omega
          have hbW := below_chain HB3.out hb4
          obtain ⟨ad, rfl, hblk, hcl⟩ := (HD.out.below hbW) (by omega)
          obtain ⟨c1, c2, c3⟩ := hcl j hjl
          obtain ⟨d1, d2, d3⟩ := (HA3.out.below hb4).2.1 j hjl
          have ea := add_plain0 w.heap.size (j * 3)
          have hja : j < n + 1 := by omega
          clear hcl hblk hbW
          generalize l[j] = d at *
          have HLT := Lib.hid hlt
          clear hjl
          go_wp2_with fail
          go_quiet (fail)
          go_wp2_with fail
          go_roundw
          case rel => exact ⟨j + 1, by have := HLT.out; omega, by go_num, below_drewN hb4 _⟩
          case measure => have := HLT.out; simp [intOf]; omega
        · obtain rfl : n = j := by omega
          obtain ⟨w4, rfl⟩ : ∃ x, x = wr := ⟨_, rfl⟩
          obtain ⟨_, _, d1, d2, d3⟩ := HA3.out.below hb4
          have ea := add_plain0 w.heap.size (n * 3)
          have hna : n < n + 1 := by omega
          clear hlt hj
          go_wp2_with fail
          go_loopw [8] (fun i wr => ∃ j : Nat, j ≤ n ∧ i = .int .i64 j ∧ Hid (∀ q (h : q < l.length), q < j → l[q].Ok) ∧ Below w3.heap.size w3 wr) (fun i _ => n - (intOf i).toNat)
          case atStart => exact ⟨0, Nat.zero_le _, rfl, Lib.hid (fun q _ h => absurd h (by omega)), hb4⟩
          case round =>
            clear hb4 d1 d2 d3 ea
            obtain ⟨j, hj, rfl, hok, hb4⟩ := hrel
            by_cases hlt : j < n
            · have hjl : j < l.length := by have := HN.out; omega
              have hbW := below_chain HB3.out hb4
              obtain ⟨ad, rfl, hblk, hcl⟩ := (HD.out.below hbW) (by omega)
              obtain ⟨c1, c2, c3⟩ := hcl j hjl
              have hmem := List.getElem_mem hjl
              have hs1 := HS.out _ hmem
              by_cases ho : l[j].Ok
              · have HOK := Lib.hid (show ∀ q (h : q < l.length), q < j + 1 → l[q].Ok from fun q hq h2 => by
                  rcases Nat.lt_or_ge q j with h3 | h3
                  · exact hok.out q hq h3
                  · obtain rfl : q = j := by omega
                    exact ho)
                have K := Lib.hid (fun w => rMayT_any l[j] w ho)
                clear hcl hblk hbW hmem hs1 ho hok
                have HLT := Lib.hid hlt
                generalize l[j] = d at *
                clear hlt hjl
                go_wp2_with fail
                refine (K.out _).mono ?_
                rintro e w5 ⟨rfl, hb5⟩
                have hb6 := below_chain hb4 hb5
                clear hb5
                go_wp2_with fail
                go_roundw
                case rel => exact ⟨j + 1, by have := HLT.out; omega, by go_num, HOK, hb6⟩
                case measure => have := HLT.out; simp [intOf]; omega
              · have K := Lib.hid (fun w => rMayT_no l[j] w hs1 ho)
                rcases HC.out with ⟨h1, _⟩ | ⟨_, rfl, rfl, rfl, rfl⟩
                · exact absurd (h1 _ hmem) ho
                · clear hcl hblk hbW hmem hs1 ho hok
                  generalize l[j] = d at *
                  clear hjl
                  go_wp2_with fail
                  refine (K.out _).mono ?_
                  rintro e w5 ⟨rfl, hb5⟩
                  have hb6 := below_chain hb4 hb5
                  obtain ⟨p0, p1, p2, p3, p4, p5, p6⟩ := Box3.facts (show Box3 w5 B (.bool false) (.string ⟨#[]⟩) (.int .i64 0) from Blk.below X.out hb6 X.out.facts.1)
                  clear hb5
                  go_wp2_with fail
                  refine (nothing_c _).mono ?_
                  rintro e w6 ⟨rfl, hb7⟩
                  have hb8 := below_chain hb6 hb7
                  have hb9 := below_chain HB3.out hb8
                  go_wp2_with fail
                  refine (awake3_c _ (HG.out.below hb9 (Nat.le_refl _))).mono ?_
                  rintro e w7 ⟨rfl, hb10⟩
                  go_wp2_with fail
                  go_ret
                  exact ⟨rfl, below_chain hb9 hb10⟩
            · obtain rfl : n = j := by omega
              rcases HC.out with ⟨_, k2⟩ | ⟨⟨t, ht, hno⟩, _⟩
              · have hbW := below_chain HB3.out hb4
                clear hok hlt hj
                go_wp2_with fail
                refine (k2 _ hbW).mono ?_
                rintro e w5 ⟨rfl, hb5⟩
                have hb6 := below_chain hb4 hb5
                have Y := Box3.new w5 (.bool g0) (.string s0) (.int .i64 x0)
                have X5 := Box3.more (show Box3 w5 B (.bool g0) (.string s0) (.int .i64 x0) from Blk.below X.out hb6 X.out.facts.1) (.cells #[.bool g0, .string s0, .int .i64 x0] 25)
                obtain ⟨p0, p1, p2, p3, p4, p5, p6⟩ := X5.facts
                obtain ⟨q0, q1, q2, q3, q4, q5, q6⟩ := Y.facts
                have hb8 := hb6.alloc hb6.size (.cells #[.bool g0, .string s0, .int .i64 x0] 25)
                have hb9 := below_chain HB3.out hb8
                clear hb5 X5 Y
                go_wp2_with fail
                refine (awake3_c _ (HG.out.below hb9 (Nat.le_refl _))).mono ?_
                rintro e w7 ⟨rfl, hb10⟩
                go_wp2_with fail
                go_ret
                exact ⟨rfl, below_chain hb9 hb10⟩
              · obtain ⟨q, hq, rfl⟩ := List.getElem_of_mem ht
                exact absurd (hok.out q hq (by have := HN.out; omega)) hno
end Go.Proofs.YtkbjlijcnlkbgaaDoor
namespace Go.Proofs.YtkbjlijcnlkbgaaDoor
open Go Go.RowKit Go.WideShapes Go.ChangeShapes
variable {H : Type} {enc : TypeId × Value → H} {P : Program}

theorem postBelow {f : Func} {s : ChangeSpec} {apart fresh handsOn again : Bool} {W W' : World} {args : Array Value} {v : Value} {ds gs : List (DataW H)} {places pa pv : List MemPlace}
    (whole : DataW.Whole enc P f.params.toList s.vars apart W args.toList ds gs places)
    (res : ∀ (b : Nat) (sp : Nat → Bool) (hd : Bool), DataW.TrodAll enc P W' b sp hd f.resultTypes.toList (v.resultList f.resultTypes.size) (s.fn H (ds ++ gs)).results [])
    (left : ∀ sp : Nat → Bool, (∀ p ∈ places, sp p.block = true) → DataW.TrodAll enc P W' 0 sp true f.params.toList args.toList (s.fn H (ds ++ gs)).args pa)
    (vars : ∀ sp : Nat → Bool, (∀ p ∈ places, sp p.block = true) → DataW.TrodVars enc P W' sp s.vars (s.fn H (ds ++ gs)).vars pv)
    (split : places = pa ++ pv) (below : Below W.heap.size W W')
    (ok : ∀ (j : Nat) (t : TypeId) (r : Value), f.resultTypes[j]? = some t → (v.resultList f.resultTypes.size)[j]? = some r → Value.okWide P W' .any 0 t r) :
    s.post enc P f apart fresh handsOn again W args v W' := by
  have old : ∀ p ∈ places, p.block < W.heap.size := fun p hp => whole.lt p hp
  have same : ∀ p ∈ places, (fun b => decide (b < W.heap.size)) p.block = true := fun p hp => decide_eq_true (old p hp)
  have kept : W.keptBut W' (fun p => p ∈ places ∧ p ∈ pa ++ pv) :=
    World.keptBut_mono (fun p hp => ⟨hp, split ▸ hp⟩) (below.frame (· ∈ places))
  have free : ∀ b off, MemPlace.cell b off ∈ pa ++ pv → W'.frozen? ⟨b, off, none⟩ = false := fun b off hp => by
    have hin : MemPlace.cell b off ∈ places := split ▸ hp
    rw [below.frozen (p := ⟨b, off, none⟩) (old _ hin)]
    obtain ⟨_, _, _, _, _, hz, _⟩ := whole
    exact hz b off hin
  have apartNow : apart = true → (pa ++ pv).Nodup := fun ha => by
    obtain ⟨_, _, _, _, _, _, hn⟩ := whole
    exact split ▸ hn ha
  refine ⟨ds, gs, places, [], pa, pv, whole, res _ _ _, left _ same, vars _ same, ?_, fun _ => ⟨ok, _, _, ([] ++ pa) ++ pv, ⟨[] ++ pa, pv, trodAll_append (left _ (fun _ _ => rfl)) (res _ _ _), vars _ (fun _ _ => rfl), rfl, ?_, ?_⟩, ?_⟩⟩
  · exact World.keptBut_mono (fun p hp => ⟨hp.1, Or.inr (List.mem_append.1 hp.2)⟩) kept
  · intro b off hp; exact free b off (by simpa using hp)
  · intro ha; simpa using apartNow ha
  · intro p hp _; rw [split]; simpa using hp
end Go.Proofs.YtkbjlijcnlkbgaaDoor
set_option linter.unusedVariables false
namespace Go.Proofs.YtkbjlijcnlkbgaaDoor
open Go.ChangeShapes Go.WideShapes Go.ChangeAt Go.RowKit Go.Joins
variable {H : Type} {enc : TypeId × Value → H}
/-- A Dyad's datum. -/
def dyadD (H : Type) (g : Bool) (s : ByteArray) (x : Int) : DataW H := .agg [.lit (.bool g), .lit (.string s.data.toList), .lit (.int .i64 x)]
set_option maxRecDepth 100000 in
theorem open_dyad {w : World} {base : Nat} {spare : Nat → Bool} {held : Bool} {r : Go.Reach} {b0 : Nat} {v : Value} {d : DataW H} {p : List MemPlace}
    (hv : Value.okWide Tryd.prog w r b0 25 v) (h : DataW.Trod enc Tryd.prog w base spare held 25 v d p) :
    ∃ (g : Bool) (s : ByteArray) (x : Int), v = .agg #[.bool g, .string s, .int .i64 x] ∧ d = dyadD H g s x ∧ p = [] ∧ s.size ≤ maxLen ∧ (Lit.int .i64 x).wf = true := by
  obtain ⟨c0, c1, c2, y0, y1, y2, m, rfl, rfl, rfl, hy0, hy1, hy2⟩ := open_agg3 Tryd.underlying25 (by kernel_rfl) (by kernel_rfl) hv h
  obtain ⟨g, e0, rfl⟩ := DataW.trod_bool Tryd.underlying4 hy0
  obtain ⟨s, e1, rfl, hs⟩ := DataW.trod_string Tryd.underlying23 hy1
  obtain ⟨x, e2, rfl, wx⟩ := DataW.trod_int Tryd.underlying3 hy2
  simp at e0 e1 e2
  subst e0 e1 e2
  exact ⟨g, s, x, rfl, rfl, rfl, hs, wx⟩
set_option maxRecDepth 100000 in
theorem shut_dyad {W' : World} {b : Nat} {sp : Nat → Bool} {hd : Bool} {g : Bool} {s : ByteArray} {x : Int} (hs : s.size ≤ maxLen) (wx : (Lit.int .i64 x).wf = true) :
    DataW.Trod enc Tryd.prog W' b sp hd 25 (.agg #[.bool g, .string s, .int .i64 x]) (dyadD H g s x) [] := by
  simpa [dyadD] using shut_agg3 (enc := enc) (w := W') (base := b) (spare := sp) (held := hd) (y0 := (.lit (.bool g), [])) (y1 := (.lit (.string s.data.toList), [])) (y2 := (.lit (.int .i64 x), [])) Tryd.underlying25 (by kernel_rfl) (by kernel_rfl) ⟨1, by simp [DataW.trod, Tryd.underlying4]⟩ ⟨1, by simp [DataW.trod, Tryd.underlying23, hs]⟩ ⟨1, by simp [DataW.trod, Tryd.underlying3, wx]⟩
theorem int64_bounds {x : Int} (h : (Lit.int .i64 x).wf = true) : -9223372036854775808 ≤ x ∧ x ≤ 9223372036854775807 := by
  unfold Lit.wf at h
  rw [Bool.and_eq_true, decide_eq_true_iff, decide_eq_true_iff] at h
  exact h
theorem float_bound {b : Nat} (h : (Lit.float .f64 b).wf = true) : b < 18446744073709551616 := by
  unfold Lit.wf at h
  exact of_decide_eq_true h
end Go.Proofs.YtkbjlijcnlkbgaaDoor
