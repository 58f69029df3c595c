import Derived.Test.YtamcnnocjelcjaaGreatDoorU5
import Derived.Laws.EntriesVeiled
import Derived.Deep.RegionWith
import Derived.Test.YtamcnnocjelcjaaGreatDoorU6
import Derived.Test.YtamcnnocjelcjaaGreatDoorU7
import Derived.Test.YtamcnnocjelcjaaGreatDoorU8
import Derived.Below
import Derived.ChangeSame
import Derived.Test.YtamcnnocjelcjaaGreatDoorRows
import Derived.ProofKit
import Derived.Lib.SmallJoins
import Derived.OpenShut
import Derived.ShutString
import Derived.Deep.Strs
import Derived.Test.YtamcnnocjelcjaaGreatDoorU9
set_option linter.unusedVariables false
set_option linter.unusedSimpArgs false
namespace Go.Proofs.YtamcnnocjelcjaaGreatDoor
open Go Go.RowKit Nt
theorem DCmp_some (x : Dt) (d : Dy) (zx : x.s.size ≤ 9223372036854775807) (hd : d.Ok) : ∃ c k : Int, ∀ w, Calls Tryz.prog 14 #[.agg #[.bool x.g, .string x.s, .int .i64 x.x], .agg #[.bool d.g, .string (natS d.n), .int .i64 d.x]] w fun e w' => e = .returned (.tuple #[.int .i64 c, .int .i64 k]) ∧ Below w.heap.size w w' := by
  by_cases h : x.Ok
  · obtain ⟨x', hx', rfl⟩ := Dt.dy h
    exact ⟨cmpD x' d, 0, fun w => DCmp_c x' d w hx' hd⟩
  · exact ⟨0, 2, fun w => DCmp_bad x d.t w zx (Nat.le_trans (Dt.small (Dy.ok_t hd)) (by decide)) (fun c => h c.1)⟩
theorem VEdges_fine (p q : Dy) (y a b c r s t : Int) (g : Gs) (w : World) (hp : p.Ok) (hq : q.Ok) (hy : -4096 ≤ y ∧ y ≤ 4096) (ha : 1 ≤ a ∧ a ≤ 65536) (hb : 1 ≤ b ∧ b ≤ 65536) (hg : g.Ok) (c1 : 0 ≤ c) (c2 : c ≤ a - 1) (r1 : 0 ≤ r) (r2 : r ≤ b - 1)
    (hxx : addE p (hz ((2 * c) - a) (y - 1)) = 0) (hyy : addE q (hz ((b - (2 * r)) - 2) (y - 1)) = 0) (huu : addE (addD p (hz ((2 * c) - a) (y - 1))) (hz 2 (y - 1)) = 0) (hvv : addE (addD q (hz ((b - (2 * r)) - 2) (y - 1))) (hz 2 (y - 1)) = 0) (hG : Globs glT w) :
    Calls Tryz.prog 4 #[.agg #[.bool p.g, .string (natS p.n), .int .i64 p.x, .bool q.g, .string (natS q.n), .int .i64 q.x, .int .i64 y, .int .i64 a, .int .i64 b], .int .i64 c, .int .i64 r, .int .i64 s, .int .i64 t, .agg #[.bool g.re.g, .string (natS g.re.n), .int .i64 g.re.x, .bool g.im.g, .string (natS g.im.n), .int .i64 g.im.x]] w fun e w' => e = .returned (.bool true) ∧ Below w.heap.size w w' := by
  have hX : (addD p (hz ((2 * c) - a) (y - 1))).Ok := add_Ok hp (hz_Ok _ _)
  have hY : (addD q (hz ((b - (2 * r)) - 2) (y - 1))).Ok := add_Ok hq (hz_Ok _ _)
  have hU : (addD (addD p (hz ((2 * c) - a) (y - 1))) (hz 2 (y - 1))).Ok := add_Ok hX (hz_Ok _ _)
  have hV : (addD (addD q (hz ((b - (2 * r)) - 2) (y - 1))) (hz 2 (y - 1))).Ok := add_Ok hY (hz_Ok _ _)
  have ivX : iv (addD p (hz ((2 * c) - a) (y - 1))) = iv p + ((2 * c) - a) * hT y := by rw [iv_addz hp (hz_Ok _ _) hxx, iv_half (by omega) hy]
  have ivY : iv (addD q (hz ((b - (2 * r)) - 2) (y - 1))) = iv q + ((b - (2 * r)) - 2) * hT y := by rw [iv_addz hq (hz_Ok _ _) hyy, iv_half (by omega) hy]
  have ivU : iv (addD (addD p (hz ((2 * c) - a) (y - 1))) (hz 2 (y - 1))) = iv (addD p (hz ((2 * c) - a) (y - 1))) + 2 * hT y := by rw [iv_addz hX (hz_Ok _ _) huu, iv_half (by omega) hy]
  have ivV : iv (addD (addD q (hz ((b - (2 * r)) - 2) (y - 1))) (hz 2 (y - 1))) = iv (addD q (hz ((b - (2 * r)) - 2) (y - 1))) + 2 * hT y := by rw [iv_addz hY (hz_Ok _ _) hvv, iv_half (by omega) hy]
  have kx : addE (addD p (hz ((2 * c) - a) (y - 1))) (pw y) = 0 := by rw [← hz_pw]; exact huu
  have ky : addE (addD q (hz ((b - (2 * r)) - 2) (y - 1))) (pw y) = 0 := by rw [← hz_pw]; exact hvv
  have hT0 := hT_pos y
  have e1 := cmpG_ge hg.1 hX
  have e2 := cmpG_ge hg.2 hY
  have e3 := cmpV_le hX hg.1
  have e4 := cmpV_le hY hg.2
  have e5 := cmpV_le hg.1 hU
  have e6 := cmpV_le hg.2 hV
  by_cases hc : cmpD g.re (addD p (hz ((2 * c) - a) (y - 1))) ≥ 0 ∧ cmpD g.re (addD (addD p (hz ((2 * c) - a) (y - 1))) (hz 2 (y - 1))) ≤ 0 ∧ cmpD g.im (addD q (hz ((b - (2 * r)) - 2) (y - 1))) ≥ 0 ∧ cmpD g.im (addD (addD q (hz ((b - (2 * r)) - 2) (y - 1))) (hz 2 (y - 1))) ≤ 0
  · obtain ⟨cca, ccb, ccc, ccd⟩ := hc
    have HH : ∀ w, Globs glT w → Calls Tryz.prog 13 #[.agg #[.bool (addD p (hz ((2 * c) - a) (y - 1))).g, .string (natS (addD p (hz ((2 * c) - a) (y - 1))).n), .int .i64 (addD p (hz ((2 * c) - a) (y - 1))).x, .bool (addD q (hz ((b - (2 * r)) - 2) (y - 1))).g, .string (natS (addD q (hz ((b - (2 * r)) - 2) (y - 1))).n), .int .i64 (addD q (hz ((b - (2 * r)) - 2) (y - 1))).x, .int .i64 y], .agg #[.bool g.re.g, .string (natS g.re.n), .int .i64 g.re.x, .bool g.im.g, .string (natS g.im.n), .int .i64 g.im.x]] w fun e w' => e = .returned (.tuple #[.bool true, .int .i64 0]) ∧ Below w.heap.size w w' := fun w hG =>
      VHolds_t (addD p (hz ((2 * c) - a) (y - 1))) (addD q (hz ((b - (2 * r)) - 2) (y - 1))) y g w hX hY hy hg kx ky (e3.2 (e1.1 cca)) (by rw [← hz_pw]; exact ccb) (e4.2 (e2.1 ccc)) (by rw [← hz_pw]; exact ccd) hG
    by_cases hs : ¬ cmpD g.re (addD p (hz ((2 * c) - a) (y - 1))) ≤ 0 ∧ ¬ cmpD g.re (addD (addD p (hz ((2 * c) - a) (y - 1))) (hz 2 (y - 1))) ≥ 0 ∧ ¬ cmpD g.im (addD q (hz ((b - (2 * r)) - 2) (y - 1))) ≤ 0 ∧ ¬ cmpD g.im (addD (addD q (hz ((b - (2 * r)) - 2) (y - 1))) (hz 2 (y - 1))) ≥ 0
    · obtain ⟨ssa, ssb, ssc, ssd⟩ := hs
      have x1 : iv (addD p (hz ((2 * c) - a) (y - 1))) < iv g.re := Int.not_le.1 fun h => ssa ((cmpV_le hg.1 hX).2 h)
      have x2 : iv g.re < iv (addD (addD p (hz ((2 * c) - a) (y - 1))) (hz 2 (y - 1))) := Int.not_le.1 fun h => ssb ((cmpG_ge hg.1 hU).2 h)
      have y1 : iv (addD q (hz ((b - (2 * r)) - 2) (y - 1))) < iv g.im := Int.not_le.1 fun h => ssc ((cmpV_le hg.2 hY).2 h)
      have y2 : iv g.im < iv (addD (addD q (hz ((b - (2 * r)) - 2) (y - 1))) (hz 2 (y - 1))) := Int.not_le.1 fun h => ssd ((cmpG_ge hg.2 hV).2 h)
      rw [ivU] at x2
      rw [ivV] at y2
      rw [ivX] at x1 x2
      rw [ivY] at y1 y2
      obtain ⟨m, n, k, HF, f1, f2, f3⟩ : ∃ m n k : Int, (∀ w, Globs glT w → Calls Tryz.prog 6 #[.agg #[.bool p.g, .string (natS p.n), .int .i64 p.x, .bool q.g, .string (natS q.n), .int .i64 q.x, .int .i64 y, .int .i64 a, .int .i64 b], .agg #[.bool g.re.g, .string (natS g.re.n), .int .i64 g.re.x, .bool g.im.g, .string (natS g.im.n), .int .i64 g.im.x]] w fun e w' => e = .returned (.tuple #[.int .i64 m, .int .i64 n, .int .i64 k]) ∧ Below w.heap.size w w') ∧ (k = 0 → m = c) ∧ (k = 0 → n = r) ∧ ¬ k = 241 := by
        obtain ⟨na, rfl⟩ := Int.eq_ofNat_of_zero_le (a := a) (by omega)
        obtain ⟨nb, rfl⟩ := Int.eq_ofNat_of_zero_le (a := b) (by omega)
        obtain ⟨nc, rfl⟩ := Int.eq_ofNat_of_zero_le (a := c) (by omega)
        obtain ⟨nr, rfl⟩ := Int.eq_ofNat_of_zero_le (a := r) (by omega)
        exact Find_in p q y na nb nc nr g hp hq hy (by omega) (by omega) hg (by omega) (by omega) x1 x2 y1 y2
      by_cases hi : s ≥ 0 ∧ s ≤ a - 1 ∧ t ≥ 0 ∧ t ≤ b - 1
      · obtain ⟨s1, s2, t1, t2⟩ := hi
        by_cases hx : addE p (hz ((2 * s) - a) (y - 1)) = 0 ∧ addE q (hz ((b - (2 * t)) - 2) (y - 1)) = 0
        · obtain ⟨hxo, hyo⟩ := hx
          by_cases hd : s = c ∧ t = r
          · obtain ⟨q1, q2⟩ := hd
            by_cases hr : b ≤ r + 1
            · exact VEdges_rSs p q y a b c r s t g m n k w hp hq hy ha hb hg c1 c2 r1 r2 hxx hyy huu hvv hr HH cca ccb ccc ccd ssa ssb ssc ssd HF f1 f2 f3 s1 s2 t1 t2 hxo hyo q1 q2 hG
            · have hr2 : r + 2 ≤ b := by omega
              by_cases hu : addE q (hz ((b - (2 * (r + 1))) - 2) (y - 1)) = 0
              · exact VEdges_kSs p q y a b c r s t g m n k w hp hq hy ha hb hg c1 c2 r1 r2 hxx hyy huu hvv hr2 hu HH cca ccb ccc ccd ssa ssb ssc ssd HF f1 f2 f3 s1 s2 t1 t2 hxo hyo q1 q2 hG
              · exact VEdges_eSs p q y a b c r s t g m n k w hp hq hy ha hb hg c1 c2 r1 r2 hxx hyy huu hvv hr2 hu HH cca ccb ccc ccd ssa ssb ssc ssd HF f1 f2 f3 s1 s2 t1 t2 hxo hyo q1 q2 hG
          · have hX2 : (addD p (hz ((2 * s) - a) (y - 1))).Ok := add_Ok hp (hz_Ok _ _)
            have hY2 : (addD q (hz ((b - (2 * t)) - 2) (y - 1))).Ok := add_Ok hq (hz_Ok _ _)
            obtain ⟨kh, HI⟩ : ∃ kh : Int, ∀ w, Globs glT w → Calls Tryz.prog 13 #[.agg #[.bool (addD p (hz ((2 * s) - a) (y - 1))).g, .string (natS (addD p (hz ((2 * s) - a) (y - 1))).n), .int .i64 (addD p (hz ((2 * s) - a) (y - 1))).x, .bool (addD q (hz ((b - (2 * t)) - 2) (y - 1))).g, .string (natS (addD q (hz ((b - (2 * t)) - 2) (y - 1))).n), .int .i64 (addD q (hz ((b - (2 * t)) - 2) (y - 1))).x, .int .i64 y], .agg #[.bool g.re.g, .string (natS g.re.n), .int .i64 g.re.x, .bool g.im.g, .string (natS g.im.n), .int .i64 g.im.x]] w fun e w' => e = .returned (.tuple #[.bool false, .int .i64 kh]) ∧ Below w.heap.size w w' := by
              by_cases hk : addE (addD p (hz ((2 * s) - a) (y - 1))) (pw y) = 0 ∧ addE (addD q (hz ((b - (2 * t)) - 2) (y - 1))) (pw y) = 0
              · refine ⟨0, fun w hG => VHolds_f (addD p (hz ((2 * s) - a) (y - 1))) (addD q (hz ((b - (2 * t)) - 2) (y - 1))) y g w hX2 hY2 hy hg hk.1 hk.2 (fun h => hd ?_) hG⟩
                obtain ⟨g1, g2, g3, g4⟩ := h
                have k1 : addE (addD p (hz ((2 * s) - a) (y - 1))) (hz 2 (y - 1)) = 0 := by rw [hz_pw]; exact hk.1
                have k2 : addE (addD q (hz ((b - (2 * t)) - 2) (y - 1))) (hz 2 (y - 1)) = 0 := by rw [hz_pw]; exact hk.2
                rw [← hz_pw] at g2 g4
                replace g1 := (cmpV_le hX2 hg.1).1 g1
                replace g2 := (cmpV_le hg.1 (add_Ok hX2 (hz_Ok _ _))).1 g2
                replace g3 := (cmpV_le hY2 hg.2).1 g3
                replace g4 := (cmpV_le hg.2 (add_Ok hY2 (hz_Ok _ _))).1 g4
                rw [iv_addz hX2 (hz_Ok _ _) k1, iv_half (by omega) hy] at g2
                rw [iv_addz hY2 (hz_Ok _ _) k2, iv_half (by omega) hy] at g4
                rw [iv_addz hp (hz_Ok _ _) hxo, iv_half (by omega) hy] at g1 g2
                rw [iv_addz hq (hz_Ok _ _) hyo, iv_half (by omega) hy] at g3 g4
                have l1 := cell_one hT0 x1 x2 g1 g2
                have l2 := cell_one hT0 y1 y2 g3 g4
                exact ⟨by omega, by omega⟩
              · exact ⟨4, fun w hG => VHolds_e (addD p (hz ((2 * s) - a) (y - 1))) (addD q (hz ((b - (2 * t)) - 2) (y - 1))) y g w hX2 hY2 hy hg hk hG⟩
            by_cases hr : b ≤ r + 1
            · exact VEdges_rSk p q y a b c r s t g m n k kh w hp hq hy ha hb hg c1 c2 r1 r2 hxx hyy huu hvv hr HH cca ccb ccc ccd ssa ssb ssc ssd HF f1 f2 f3 s1 s2 t1 t2 hxo hyo hd HI hG
            · have hr2 : r + 2 ≤ b := by omega
              by_cases hu : addE q (hz ((b - (2 * (r + 1))) - 2) (y - 1)) = 0
              · exact VEdges_kSk p q y a b c r s t g m n k kh w hp hq hy ha hb hg c1 c2 r1 r2 hxx hyy huu hvv hr2 hu HH cca ccb ccc ccd ssa ssb ssc ssd HF f1 f2 f3 s1 s2 t1 t2 hxo hyo hd HI hG
              · exact VEdges_eSk p q y a b c r s t g m n k kh w hp hq hy ha hb hg c1 c2 r1 r2 hxx hyy huu hvv hr2 hu HH cca ccb ccc ccd ssa ssb ssc ssd HF f1 f2 f3 s1 s2 t1 t2 hxo hyo hd HI hG
        · by_cases hr : b ≤ r + 1
          · exact VEdges_rSx p q y a b c r s t g m n k w hp hq hy ha hb hg c1 c2 r1 r2 hxx hyy huu hvv hr HH cca ccb ccc ccd ssa ssb ssc ssd HF f1 f2 f3 s1 s2 t1 t2 hx hG
          · have hr2 : r + 2 ≤ b := by omega
            by_cases hu : addE q (hz ((b - (2 * (r + 1))) - 2) (y - 1)) = 0
            · exact VEdges_kSx p q y a b c r s t g m n k w hp hq hy ha hb hg c1 c2 r1 r2 hxx hyy huu hvv hr2 hu HH cca ccb ccc ccd ssa ssb ssc ssd HF f1 f2 f3 s1 s2 t1 t2 hx hG
            · exact VEdges_eSx p q y a b c r s t g m n k w hp hq hy ha hb hg c1 c2 r1 r2 hxx hyy huu hvv hr2 hu HH cca ccb ccc ccd ssa ssb ssc ssd HF f1 f2 f3 s1 s2 t1 t2 hx hG
      · by_cases hr : b ≤ r + 1
        · exact VEdges_rSo p q y a b c r s t g m n k w hp hq hy ha hb hg c1 c2 r1 r2 hxx hyy huu hvv hr HH cca ccb ccc ccd ssa ssb ssc ssd HF f1 f2 f3 hi hG
        · have hr2 : r + 2 ≤ b := by omega
          by_cases hu : addE q (hz ((b - (2 * (r + 1))) - 2) (y - 1)) = 0
          · exact VEdges_kSo p q y a b c r s t g m n k w hp hq hy ha hb hg c1 c2 r1 r2 hxx hyy huu hvv hr2 hu HH cca ccb ccc ccd ssa ssb ssc ssd HF f1 f2 f3 hi hG
          · exact VEdges_eSo p q y a b c r s t g m n k w hp hq hy ha hb hg c1 c2 r1 r2 hxx hyy huu hvv hr2 hu HH cca ccb ccc ccd ssa ssb ssc ssd HF f1 f2 f3 hi hG
    · by_cases hr : b ≤ r + 1
      · exact VEdges_rB p q y a b c r s t g w hp hq hy ha hb hg c1 c2 r1 r2 hxx hyy huu hvv hr HH cca ccb ccc ccd hs hG
      · have hr2 : r + 2 ≤ b := by omega
        by_cases hu : addE q (hz ((b - (2 * (r + 1))) - 2) (y - 1)) = 0
        · exact VEdges_kB p q y a b c r s t g w hp hq hy ha hb hg c1 c2 r1 r2 hxx hyy huu hvv hr2 hu HH cca ccb ccc ccd hs hG
        · exact VEdges_eB p q y a b c r s t g w hp hq hy ha hb hg c1 c2 r1 r2 hxx hyy huu hvv hr2 hu HH cca ccb ccc ccd hs hG
  · have HH : ∀ w, Globs glT w → Calls Tryz.prog 13 #[.agg #[.bool (addD p (hz ((2 * c) - a) (y - 1))).g, .string (natS (addD p (hz ((2 * c) - a) (y - 1))).n), .int .i64 (addD p (hz ((2 * c) - a) (y - 1))).x, .bool (addD q (hz ((b - (2 * r)) - 2) (y - 1))).g, .string (natS (addD q (hz ((b - (2 * r)) - 2) (y - 1))).n), .int .i64 (addD q (hz ((b - (2 * r)) - 2) (y - 1))).x, .int .i64 y], .agg #[.bool g.re.g, .string (natS g.re.n), .int .i64 g.re.x, .bool g.im.g, .string (natS g.im.n), .int .i64 g.im.x]] w fun e w' => e = .returned (.tuple #[.bool false, .int .i64 0]) ∧ Below w.heap.size w w' := fun w hG => by
      refine VHolds_f (addD p (hz ((2 * c) - a) (y - 1))) (addD q (hz ((b - (2 * r)) - 2) (y - 1))) y g w hX hY hy hg kx ky (fun h => hc ⟨e1.2 (e3.1 h.1), ?_, e2.2 (e4.1 h.2.2.1), ?_⟩) hG
      · have := h.2.1; rw [← hz_pw] at this; exact this
      · have := h.2.2.2; rw [← hz_pw] at this; exact this
    by_cases hr : b ≤ r + 1
    · exact VEdges_rF p q y a b c r s t g w hp hq hy ha hb hg c1 c2 r1 r2 hxx hyy huu hvv hr hc HH hG
    · have hr2 : r + 2 ≤ b := by omega
      by_cases hu : addE q (hz ((b - (2 * (r + 1))) - 2) (y - 1)) = 0
      · exact VEdges_kF p q y a b c r s t g w hp hq hy ha hb hg c1 c2 r1 r2 hxx hyy huu hvv hr2 hu hc HH hG
      · exact VEdges_eF p q y a b c r s t g w hp hq hy ha hb hg c1 c2 r1 r2 hxx hyy huu hvv hr2 hu hc HH hG
theorem ViewEdges_law (p q : Dt) (y a b c r s t : Int) (g : Gt) (w : World) (zp : p.s.size ≤ 9223372036854775807) (zq : q.s.size ≤ 9223372036854775807) (zg : g.Small) (hG : Globs glT w) :
    Calls Tryz.prog 4 #[.agg #[.bool p.g, .string p.s, .int .i64 p.x, .bool q.g, .string q.s, .int .i64 q.x, .int .i64 y, .int .i64 a, .int .i64 b], .int .i64 c, .int .i64 r, .int .i64 s, .int .i64 t, .agg #[.bool g.re.g, .string g.re.s, .int .i64 g.re.x, .bool g.im.g, .string g.im.s, .int .i64 g.im.x]] w fun e w' => e = .returned (.bool true) ∧ Below w.heap.size w w' := by
  by_cases hw : (⟨⟨p, q⟩, y, a, b⟩ : WinT).Ok
  · obtain ⟨⟨h1, h2⟩, hy, ha, hb⟩ := hw
    obtain ⟨p, hp, rfl⟩ := Dt.dy h1
    obtain ⟨q, hq, rfl⟩ := Dt.dy h2
    replace hy : -4096 ≤ y ∧ y ≤ 4096 := hy
    replace ha : 1 ≤ a ∧ a ≤ 65536 := ha
    replace hb : 1 ≤ b ∧ b ≤ 65536 := hb
    by_cases hi : c ≥ 0 ∧ c ≤ a - 1 ∧ r ≥ 0 ∧ r ≤ b - 1
    · obtain ⟨c1, c2, r1, r2⟩ := hi
      by_cases hx : addE p (hz ((2 * c) - a) (y - 1)) = 0 ∧ addE q (hz ((b - (2 * r)) - 2) (y - 1)) = 0
      · obtain ⟨hxx, hyy⟩ := hx
        by_cases hu : addE (addD p (hz ((2 * c) - a) (y - 1))) (hz 2 (y - 1)) = 0 ∧ addE (addD q (hz ((b - (2 * r)) - 2) (y - 1))) (hz 2 (y - 1)) = 0
        · obtain ⟨huu, hvv⟩ := hu
          by_cases hg : g.Ok
          · obtain ⟨g', hg', rfl⟩ := Gt.gs hg
            exact VEdges_fine p q y a b c r s t g' w hp hq hy ha hb hg' c1 c2 r1 r2 hxx hyy huu hvv hG
          · have hX : (addD p (hz ((2 * c) - a) (y - 1))).Ok := add_Ok hp (hz_Ok _ _)
            have hY : (addD q (hz ((b - (2 * r)) - 2) (y - 1))).Ok := add_Ok hq (hz_Ok _ _)
            obtain ⟨ca, ka, HA⟩ := DCmp_some g.re (addD p (hz ((2 * c) - a) (y - 1))) zg.1 hX
            obtain ⟨cb, kb, HB⟩ := DCmp_some g.re (addD (addD p (hz ((2 * c) - a) (y - 1))) (hz 2 (y - 1))) zg.1 (add_Ok hX (hz_Ok _ _))
            obtain ⟨cc, kc, HC⟩ := DCmp_some g.im (addD q (hz ((b - (2 * r)) - 2) (y - 1))) zg.2 hY
            obtain ⟨cd, kd, HD⟩ := DCmp_some g.im (addD (addD q (hz ((b - (2 * r)) - 2) (y - 1))) (hz 2 (y - 1))) zg.2 (add_Ok hY (hz_Ok _ _))
            by_cases hr : b ≤ r + 1
            · exact VEdges_gr p q y a b c r s t g ca cb cc cd ka kb kc kd w hp hq hy ha hb c1 c2 r1 r2 hxx hyy huu hvv hr zg hg (fun w _ => HA w) (fun w _ => HB w) (fun w _ => HC w) (fun w _ => HD w) hG
            · have hr2 : r + 2 ≤ b := by omega
              by_cases ho : addE q (hz ((b - (2 * (r + 1))) - 2) (y - 1)) = 0
              · exact VEdges_gk p q y a b c r s t g ca cb cc cd ka kb kc kd w hp hq hy ha hb c1 c2 r1 r2 hxx hyy huu hvv hr2 ho zg hg (fun w _ => HA w) (fun w _ => HB w) (fun w _ => HC w) (fun w _ => HD w) hG
              · exact VEdges_ge p q y a b c r s t g ca cb cc cd ka kb kc kd w hp hq hy ha hb c1 c2 r1 r2 hxx hyy huu hvv hr2 ho zg hg (fun w _ => HA w) (fun w _ => HB w) (fun w _ => HC w) (fun w _ => HD w) hG
        · exact VEdges_corn p q y a b c r s t g w hp hq hy ha hb c1 c2 r1 r2 hxx hyy hu hG
      · exact VEdges_long p q y a b c r s t g w hp hq hy ha hb c1 c2 r1 r2 hx hG
    · exact VEdges_out p q y a b c r s t g w hp hq hy ha hb hi hG
  · have HC : ∀ w, Globs glT w → Calls Tryz.prog 15 #[.agg #[.bool p.g, .string p.s, .int .i64 p.x, .bool q.g, .string q.s, .int .i64 q.x, .int .i64 y, .int .i64 a, .int .i64 b]] w fun e w' => e = .returned (.int .i64 240) ∧ Below w.heap.size w w' := fun w hG => by
      have h := VCheck_c ⟨⟨p, q⟩, y, a, b⟩ w ⟨zp, zq⟩ hG
      rwa [wE_no hw] at h
    exact VEdges_w p q y a b c r s t g w trivial HC hG
end Go.Proofs.YtamcnnocjelcjaaGreatDoor
namespace Go.Proofs.YtamcnnocjelcjaaGreatDoor
open Go Go.RowKit Go.WideShapes Go.ChangeShapes
variable {H : Type} {enc : TypeId × Value → H} {P : Program}
theorem postBelow {f : Func} {s : ChangeSpec} {apart fresh handsOn again : Bool} {W W' : World} {args : Array Value} {v : Value} {ds gs : List (DataW H)} {places pa pv : List MemPlace}
    (whole : DataW.Whole enc P f.params.toList s.vars apart W args.toList ds gs places)
    (res : ∀ (b : Nat) (sp : Nat → Bool) (hd : Bool), DataW.TrodAll enc P W' b sp hd f.resultTypes.toList (v.resultList f.resultTypes.size) (s.fn H (ds ++ gs)).results [])
    (left : ∀ sp : Nat → Bool, (∀ p ∈ places, sp p.block = true) → DataW.TrodAll enc P W' 0 sp true f.params.toList args.toList (s.fn H (ds ++ gs)).args pa)
    (vars : ∀ sp : Nat → Bool, (∀ p ∈ places, sp p.block = true) → DataW.TrodVars enc P W' sp s.vars (s.fn H (ds ++ gs)).vars pv)
    (split : places = pa ++ pv) (below : Below W.heap.size W W')
    (ok : ∀ (j : Nat) (t : TypeId) (r : Value), f.resultTypes[j]? = some t → (v.resultList f.resultTypes.size)[j]? = some r → Value.okWide P W' .any 0 t r) :
    s.post enc P f apart fresh handsOn again W args v W' := by
  have old : ∀ p ∈ places, p.block < W.heap.size := fun p hp => whole.lt p hp
  have same : ∀ p ∈ places, (fun b => decide (b < W.heap.size)) p.block = true := fun p hp => decide_eq_true (old p hp)
  have kept : W.keptBut W' (fun p => p ∈ places ∧ p ∈ pa ++ pv) :=
    World.keptBut_mono (fun p hp => ⟨hp, split ▸ hp⟩) (below.frame (· ∈ places))
  have free : ∀ b off, MemPlace.cell b off ∈ pa ++ pv → W'.frozen? ⟨b, off, none⟩ = false := fun b off hp => by
    have hin : MemPlace.cell b off ∈ places := split ▸ hp
    rw [below.frozen (p := ⟨b, off, none⟩) (old _ hin)]
    obtain ⟨_, _, _, _, _, hz, _⟩ := whole
    exact hz b off hin
  have apartNow : apart = true → (pa ++ pv).Nodup := fun ha => by
    obtain ⟨_, _, _, _, _, _, hn⟩ := whole
    exact split ▸ hn ha
  refine ⟨ds, gs, places, [], pa, pv, whole, res _ _ _, left _ same, vars _ same, ?_, fun _ => ⟨ok, _, _, ([] ++ pa) ++ pv, ⟨[] ++ pa, pv, trodAll_append (left _ (fun _ _ => rfl)) (res _ _ _), vars _ (fun _ _ => rfl), rfl, ?_, ?_⟩, ?_⟩⟩
  · exact World.keptBut_mono (fun p hp => ⟨hp.1, Or.inr (List.mem_append.1 hp.2)⟩) kept
  · intro b off hp; exact free b off (by simpa using hp)
  · intro ha; simpa using apartNow ha
  · intro p hp _; rw [split]; simpa using hp
end Go.Proofs.YtamcnnocjelcjaaGreatDoor
namespace Go.Proofs.YtamcnnocjelcjaaGreatDoor
open Go.ChangeShapes Go.WideShapes Go.ChangeAt Go.RowKit Go.Joins
variable {H : Type} {enc : TypeId × Value → H}
def dyadD (H : Type) (g : Bool) (s : ByteArray) (x : Int) : DataW H := .agg [.lit (.bool g), .lit (.string s.data.toList), .lit (.int .i64 x)]
end Go.Proofs.YtamcnnocjelcjaaGreatDoor
namespace Go.Proofs.YtamcnnocjelcjaaGreatDoor
open Go.ChangeShapes Go.WideShapes Go.ChangeAt Go.RowKit Go.Joins Go.Deep Go.ChangeMaps
variable {H : Type} {enc : TypeId × Value → H}
def gaussD (H : Type) (g : Bool) (s : ByteArray) (x : Int) (k : Bool) (r : ByteArray) (y : Int) : DataW H := .agg [dyadD H g s x, dyadD H k r y]
theorem array6 {α : Type} {cs : Array α} (h : cs.size = 6) : ∃ c0 c1 c2 c3 c4 c5, cs = #[c0, c1, c2, c3, c4, c5] := by
  obtain ⟨l⟩ := cs
  match l, h with
  | [c0, c1, c2, c3, c4, c5], _ => exact ⟨c0, c1, c2, c3, c4, c5, rfl⟩
theorem cDyad : Tryz.prog.cellsOf 24 = 3 := by kernel_rfl
theorem cGauss : Tryz.prog.cellsOf 26 = 6 := by kernel_rfl
theorem cBool1 : Tryz.prog.cellsOf 4 = 1 := by kernel_rfl
theorem cNat1 : Tryz.prog.cellsOf 22 = 1 := by kernel_rfl
theorem cInt1 : Tryz.prog.cellsOf 3 = 1 := by kernel_rfl
set_option maxRecDepth 100000 in
theorem trod_dyad {w : World} {base : Nat} {spare : Nat → Bool} {held : Bool} {n : Nat} {c0 c1 c2 : Value} {y : DataW H × List MemPlace} (h : DataW.trod enc Tryz.prog w base spare held n 24 [c0, c1, c2] = some y) :
    ∃ (g : Bool) (s : ByteArray) (x : Int), c0 = .bool g ∧ c1 = .string s ∧ c2 = .int .i64 x ∧ y = (dyadD H g s x, []) ∧ s.size ≤ maxLen ∧ (Lit.int .i64 x).wf = true := by
  obtain ⟨y0, y1, y2, m, rfl, _, h0, h1, h2⟩ := trod_struct3 Tryz.underlying24 h
  simp only [cBool1, cNat1, cInt1, List.drop_zero, List.take_succ_cons, List.take_zero, List.drop_succ_cons] at h0 h1 h2
  obtain ⟨g, e0, rfl⟩ := DataW.trod_bool Tryz.underlying4 h0
  obtain ⟨s, e1, rfl, hs⟩ := DataW.trod_string Tryz.underlying22 h1
  obtain ⟨x, e2, rfl, wx⟩ := DataW.trod_int Tryz.underlying3 h2
  simp at e0 e1 e2
  subst e0 e1 e2
  exact ⟨g, s, x, rfl, rfl, rfl, rfl, hs, wx⟩
set_option maxRecDepth 100000 in
theorem open_gauss {w : World} {base : Nat} {spare : Nat → Bool} {held : Bool} {r : Go.Reach} {b0 : Nat} {v : Value} {d : DataW H} {p : List MemPlace}
    (hv : Value.okWide Tryz.prog w r b0 26 v) (h : DataW.Trod enc Tryz.prog w base spare held 26 v d p) :
    ∃ (g : Bool) (s : ByteArray) (x : Int) (k : Bool) (q : ByteArray) (y : Int), v = .agg #[.bool g, .string s, .int .i64 x, .bool k, .string q, .int .i64 y] ∧ d = gaussD H g s x k q y ∧ p = [] ∧ (s.size ≤ maxLen ∧ (Lit.int .i64 x).wf = true) ∧ (q.size ≤ maxLen ∧ (Lit.int .i64 y).wf = true) := by
  obtain ⟨cs, rfl, hsz⟩ := okWide_struct Tryz.underlying26 hv
  obtain ⟨c0, c1, c2, c3, c4, c5, rfl⟩ := array6 (hsz.trans cGauss)
  obtain ⟨fuel, hf⟩ := h
  obtain ⟨y0, y1, n, hx, _, h0, h1⟩ := trod_struct2 Tryz.underlying26 hf
  simp only [Value.cells, cDyad, List.drop_zero, List.take_succ_cons, List.take_zero, List.drop_succ_cons] at h0 h1
  obtain ⟨g, s, x, rfl, rfl, rfl, rfl, hs, wx⟩ := trod_dyad h0
  obtain ⟨k, q, y, rfl, rfl, rfl, rfl, hq, wy⟩ := trod_dyad h1
  simp only [Prod.mk.injEq] at hx
  obtain ⟨hd, hp⟩ := hx
  exact ⟨g, s, x, k, q, y, rfl, hd, hp, ⟨hs, wx⟩, ⟨hq, wy⟩⟩
theorem shut_trod_dyad {W' : World} {b : Nat} {sp : Nat → Bool} {hd : Bool} {g : Bool} {s : ByteArray} {x : Int} (hs : s.size ≤ maxLen) (wx : (Lit.int .i64 x).wf = true) (n : Nat) :
    DataW.trod enc Tryz.prog W' b sp hd (n + 2) 24 [.bool g, .string s, .int .i64 x] = some (dyadD H g s x, []) := by
  have := trod_struct3_mk (enc := enc) (w := W') (base := b) (spare := sp) (held := hd) (n := n + 1) (cs := [.bool g, .string s, .int .i64 x]) (y0 := (.lit (.bool g), [])) (y1 := (.lit (.string s.data.toList), [])) (y2 := (.lit (.int .i64 x), [])) Tryz.underlying24 (by rw [cDyad]; rfl)
    (by simp [cBool1, DataW.trod, Tryz.underlying4]) (by simp [cNat1, DataW.trod, Tryz.underlying22, hs]) (by simp [cInt1, DataW.trod, Tryz.underlying3, wx])
  simpa [dyadD] using this
set_option maxRecDepth 100000 in
theorem shut_gauss {W' : World} {b : Nat} {sp : Nat → Bool} {hd : Bool} {g : Bool} {s : ByteArray} {x : Int} {k : Bool} {q : ByteArray} {y : Int} (h1 : s.size ≤ maxLen ∧ (Lit.int .i64 x).wf = true) (h2 : q.size ≤ maxLen ∧ (Lit.int .i64 y).wf = true) :
    DataW.Trod enc Tryz.prog W' b sp hd 26 (.agg #[.bool g, .string s, .int .i64 x, .bool k, .string q, .int .i64 y]) (gaussD H g s x k q y) [] := by
  refine ⟨3, ?_⟩
  have := trod_struct2_mk (enc := enc) (w := W') (base := b) (spare := sp) (held := hd) (n := 2) (cs := [.bool g, .string s, .int .i64 x, .bool k, .string q, .int .i64 y]) (y0 := (dyadD H g s x, [])) (y1 := (dyadD H k q y, [])) Tryz.underlying26 (by rw [cGauss]; rfl)
    (by simp only [cDyad, List.drop_zero, List.take_succ_cons, List.take_zero, List.drop_succ_cons]; exact shut_trod_dyad h1.1 h1.2 0) (by simp only [cDyad, List.drop_zero, List.take_succ_cons, List.take_zero, List.drop_succ_cons]; exact shut_trod_dyad h2.1 h2.2 0)
  simpa [gaussD, Value.cells] using this
end Go.Proofs.YtamcnnocjelcjaaGreatDoor
namespace Go.Proofs.YtamcnnocjelcjaaGreatDoor
open Go.ChangeShapes Go.WideShapes Go.ChangeAt Go.RowKit Go.Joins Go.Deep Go.ChangeMaps
variable {H : Type} {enc : TypeId × Value → H}
theorem array9w {α : Type} {cs : Array α} (h : cs.size = 9) : ∃ c0 c1 c2 c3 c4 c5 c6 c7 c8, cs = #[c0, c1, c2, c3, c4, c5, c6, c7, c8] := by
  obtain ⟨l⟩ := cs
  match l, h with
  | [c0, c1, c2, c3, c4, c5, c6, c7, c8], _ => exact ⟨c0, c1, c2, c3, c4, c5, c6, c7, c8, rfl⟩
theorem cWindow : Tryz.prog.cellsOf 28 = 9 := by kernel_rfl
theorem laidOutW : laidOutB Tryz.prog = true := by kernel_rfl
set_option maxRecDepth 100000 in
theorem trod_gauss {w : World} {base : Nat} {spare : Nat → Bool} {held : Bool} {n : Nat} {c0 c1 c2 c3 c4 c5 : Value} {y : DataW H × List MemPlace} (h : DataW.trod enc Tryz.prog w base spare held n 26 [c0, c1, c2, c3, c4, c5] = some y) :
    ∃ (g : Bool) (s : ByteArray) (x : Int) (k : Bool) (q : ByteArray) (z : Int), c0 = .bool g ∧ c1 = .string s ∧ c2 = .int .i64 x ∧ c3 = .bool k ∧ c4 = .string q ∧ c5 = .int .i64 z ∧ y.2 = [] ∧ s.size ≤ maxLen ∧ q.size ≤ maxLen := by
  obtain ⟨y0, y1, n, hx, _, h0, h1⟩ := trod_struct2 Tryz.underlying26 h
  simp only [Value.cells, cDyad, List.drop_zero, List.take_succ_cons, List.take_zero, List.drop_succ_cons] at h0 h1
  obtain ⟨g, s, x, rfl, rfl, rfl, rfl, hs, wx⟩ := trod_dyad h0
  obtain ⟨k, q, z, rfl, rfl, rfl, rfl, hq, wy⟩ := trod_dyad h1
  simp only [hx]
  exact ⟨g, s, x, k, q, z, rfl, rfl, rfl, rfl, rfl, rfl, rfl, hs, hq⟩
set_option maxRecDepth 100000 in
theorem open_window {w : World} {base : Nat} {spare : Nat → Bool} {held : Bool} {r : Go.Reach} {b0 : Nat} {v : Value} {d : DataW H} {p : List MemPlace}
    (hv : Value.okWide Tryz.prog w r b0 28 v) (h : DataW.Trod enc Tryz.prog w base spare held 28 v d p) :
    ∃ (g : Bool) (s : ByteArray) (x : Int) (k : Bool) (q : ByteArray) (y e a b : Int), v = .agg #[.bool g, .string s, .int .i64 x, .bool k, .string q, .int .i64 y, .int .i64 e, .int .i64 a, .int .i64 b] ∧ s.size ≤ maxLen ∧ q.size ≤ maxLen := by
  obtain ⟨cs, rfl, hsz⟩ := okWide_struct Tryz.underlying28 hv
  obtain ⟨c0, c1, c2, c3, c4, c5, c6, c7, c8, rfl⟩ := array9w (hsz.trans cWindow)
  obtain ⟨fuel, hf⟩ := h
  obtain ⟨xs, n, _, _, _, hl, hall⟩ := DataW.trod_struct Tryz.underlying28 hf
  have hl4 : xs.length = 4 := hl
  match xs, hl4, hall with
  | [x0, x1, x2, x3], _, hall =>
    have h0 := hall 0 _ rfl
    have h1 := hall 1 _ rfl
    have h2 := hall 2 _ rfl
    have h3 := hall 3 _ rfl
    simp only [Value.cells, cGauss, cInt1, List.drop_zero, List.take_succ_cons, List.take_zero, List.drop_succ_cons] at h0 h1 h2 h3
    obtain ⟨g, s, x, k, q, z, rfl, rfl, rfl, rfl, rfl, rfl, _, hs, hq⟩ := trod_gauss h0
    obtain ⟨e, e1, _, _⟩ := DataW.trod_int Tryz.underlying3 h1
    obtain ⟨a, e2, _, _⟩ := DataW.trod_int Tryz.underlying3 h2
    obtain ⟨b, e3, _, _⟩ := DataW.trod_int Tryz.underlying3 h3
    simp [cInt1] at e1 e2 e3
    subst e1 e2 e3
    exact ⟨g, s, x, k, q, z, e, a, b, rfl, hs, hq⟩
end Go.Proofs.YtamcnnocjelcjaaGreatDoor
