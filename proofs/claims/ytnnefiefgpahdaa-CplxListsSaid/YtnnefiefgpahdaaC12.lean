/- Contracts: sums and products of lists of package cplx and of the document's answer. -/
import Derived.Test.YtnnefiefgpahdaaC11
import Derived.Deep.RegionHeld3
set_option linter.unusedSimpArgs false
set_option linter.unusedVariables false
namespace Go.Proofs.Ytnnefiefgpahdaa
open Go Go.RowKit Ff
attribute [local go_sem] f_lt f_gt f_eq f_ne run_add run_sub run_mul run_quo k_inf k_nan finC_ne

theorem rSum_c (l : List (Nat × Nat)) (ad : Addr) (cap : Nat) (w : World) (hl : l.length ≤ maxLen) (hc : ∀ k (h : k < l.length), w.cell? (ad.add k) = some (.complex .f64 l[k].1 l[k].2)) :
    Calls Try.prog 7 #[.slice (some ad) l.length cap] w (CPost (sumF l).1 (sumF l).2 w) := by
  unfold maxLen at hl
  go_enter Try.func7, Try.ntmps7
  go_wp2
  go_loopw [3, 4] (fun s i wr => ∃ (k a b n : Nat), k ≤ l.length ∧ i = .int .i64 k ∧ s = .complex .f64 a b ∧ likeB a (sumF (l.take k)).1 = true ∧ likeB b (sumF (l.take k)).2 = true ∧ wr = w.drewN n) (fun _ i _ => l.length - (intOf i).toNat)
  case atStart => exact ⟨0, 0, 0, 0, Nat.zero_le _, rfl, rfl, like_refl _, like_refl _, rfl⟩
  case round =>
    obtain ⟨k, a, b, n, hk, rfl, rfl, h1, h2, rfl⟩ := hrel
    by_cases hlt : k < l.length
    · have hck := hc k hlt
      have hs := Lib.hid (sumF_take l k hlt)
      go_wp2_with (go_at_call 14; refine (rAdd_c _ _ _ _ _).mono ?_; rintro e w' ⟨a', b', m, rfl, g1, g2, rfl⟩)
      go_roundw
      case rel =>
        exact ⟨k + 1, a', b', _, by omega, by go_num, rfl, by rw [hs.out]; exact like_trans g1 (fop_like h1 (like_refl _)), by rw [hs.out]; exact like_trans g2 (fop_like h2 (like_refl _)), rfl⟩
      case measure => simp [intOf]; omega
    · have hk' : k = l.length := by omega
      have H1 := Lib.hid h1
      have H2 := Lib.hid h2
      clear h1 h2
      go_wp2
      go_ret
      exact ⟨_, _, _, rfl, by have := H1.out; rwa [List.take_of_length_le (by omega)] at this, by have := H2.out; rwa [List.take_of_length_le (by omega)] at this, rfl⟩
/-- Only draws happened. -/
def SD (w w' : World) : Prop := ∃ n, w' = w.drewN n
theorem SD_drewN {w w' : World} (h : SD w w') (m : Nat) : SD w (w'.drewN m) := by
  obtain ⟨n, rfl⟩ := h; exact ⟨n + m, World.drewN_drewN _ _ _⟩
theorem SD_any (w : World) (n : Nat) : SD w (w.drewN n) := ⟨n, rfl⟩
theorem SD_start (w : World) (n : Nat) : SD w ((w.drewN n).drew) := ⟨n + 1, rfl⟩
theorem SD_cell {w w' : World} (h : SD w w') {a : Addr} {v : Option Value} (hc : w.cell? a = v) : w'.cell? a = v := by
  obtain ⟨n, rfl⟩ := h; exact hc
def mStep (p : (Nat × Nat) × (Nat × Nat)) : Nat × Nat := (mulR p.1.1 p.1.2 p.2.1 p.2.2, mulI p.1.1 p.1.2 p.2.1 p.2.2)
theorem rDot_c (l m : List (Nat × Nat)) (ad ad' : Addr) (cap cap' : Nat) (w : World) (hl : l.length ≤ maxLen) (he : m.length = l.length) (hc : ∀ k (h : k < l.length), w.cell? (ad.add k) = some (.complex .f64 l[k].1 l[k].2)) (hd : ∀ k (h : k < m.length), w.cell? (ad'.add k) = some (.complex .f64 m[k].1 m[k].2)) :
    Calls Try.prog 9 #[.slice (some ad) l.length cap, .slice (some ad') l.length cap'] w (CPost (sumF ((l.zip m).map mStep)).1 (sumF ((l.zip m).map mStep)).2 w) := by
  unfold maxLen at hl
  have hz : ((l.zip m).map mStep).length = l.length := by rw [List.length_map, List.length_zip, he, Nat.min_self]
  go_enter Try.func9, Try.ntmps9
  go_wp2
  go_loopw [5, 6] (fun s i wr => ∃ (k a b n : Nat), k ≤ l.length ∧ i = .int .i64 k ∧ s = .complex .f64 a b ∧ likeB a (sumF (((l.zip m).map mStep).take k)).1 = true ∧ likeB b (sumF (((l.zip m).map mStep).take k)).2 = true ∧ wr = w.drewN n) (fun _ i _ => l.length - (intOf i).toNat)
  case atStart => exact ⟨0, 0, 0, 0, Nat.zero_le _, rfl, rfl, like_refl _, like_refl _, rfl⟩
  case round =>
    obtain ⟨k, a, b, n, hk, rfl, rfl, h1, h2, rfl⟩ := hrel
    by_cases hlt : k < l.length
    · have hck := hc k hlt
      have hdk := hd k (by omega)
      have hs := Lib.hid (sumF_take ((l.zip m).map mStep) k (by omega))
      have hg : ((l.zip m).map mStep)[k]'(by omega) = mStep (l[k], m[k]'(by omega)) := by rw [List.getElem_map, List.getElem_zip]
      have HG := Lib.hid hg
      clear hg
      have L0 := fun w' (h : SD w w') => SD_cell h hck
      have L1 := fun w' (h : SD w w') => SD_cell h hdk
      have L2 := SD_start w n
      go_wp2
      go_region_held3 (SD w) (first | assumption | exact SD_any _ _ | exact ⟨_, rfl⟩ | exact SD_drewN (SD_start _ _) _ | exact SD_drewN (SD_drewN (SD_start _ _) _) _)
        (first
          | (go_at_call 16; refine (rMul_c _ _ _ _ _).mono ?_; rintro e w' ⟨a1, b1, m1, rfl, e1, e2, rfl⟩)
          | (go_at_call 14; refine (rAdd_c _ _ _ _ _).mono ?_; rintro e w' ⟨a', b', m2, rfl, g1, g2, rfl⟩))
      rename_i hHeld
      clear L0 L1 L2 hHeld
      go_wp2
      go_roundw
      case rel =>
        exact ⟨k + 1, a', b', _, by omega, by go_num, rfl, by rw [hs.out, HG.out]; exact like_trans g1 (fop_like h1 e1), by rw [hs.out, HG.out]; exact like_trans g2 (fop_like h2 e2), rfl⟩
      case measure => simp [intOf]; omega
    · have hk' : k = l.length := by omega
      have H1 := Lib.hid h1
      have H2 := Lib.hid h2
      clear h1 h2
      go_wp2
      go_ret
      exact ⟨_, _, _, rfl, by have := H1.out; rwa [List.take_of_length_le (by omega)] at this, by have := H2.out; rwa [List.take_of_length_le (by omega)] at this, rfl⟩
theorem Dot_no (la lb : Nat) (A B : Option Addr) (cap cap' : Nat) (w : World) (h : la ≠ lb) :
    Calls Try.prog 8 #[.slice A la cap, .slice B lb cap'] w fun e w' => e = .returned (.tuple #[.complex .f64 0 0, .int .i64 2]) ∧ w = w' := by
  have hb : ((la : Int) != (lb : Int)) = true := by rw [bne_iff_ne]; omega
  go_enter Try.func8, Try.ntmps8
  go_wp2
  all_goals go_ret2
  all_goals exact ⟨rfl, rfl⟩
theorem Dot_c (l m : List (Nat × Nat)) (ad ad' : Addr) (cap cap' : Nat) (w : World) (hl : l.length ≤ maxLen) (he : m.length = l.length) (hc : ∀ k (h : k < l.length), w.cell? (ad.add k) = some (.complex .f64 l[k].1 l[k].2)) (hd : ∀ k (h : k < m.length), w.cell? (ad'.add k) = some (.complex .f64 m[k].1 m[k].2)) :
    Calls Try.prog 8 #[.slice (some ad) l.length cap, .slice (some ad') l.length cap'] w fun e w' => ∃ a b n, e = .returned (.tuple #[.complex .f64 a b, .int .i64 0]) ∧ likeB a (sumF ((l.zip m).map mStep)).1 = true ∧ likeB b (sumF ((l.zip m).map mStep)).2 = true ∧ w' = w.drewN n := by
  unfold maxLen at hl
  have hz : ((l.zip m).map mStep).length = l.length := by rw [List.length_map, List.length_zip, he, Nat.min_self]
  go_enter Try.func8, Try.ntmps8
  go_wp2
  go_loopw [6, 16] (fun s i wr => ∃ (k a b n : Nat), k ≤ l.length ∧ i = .int .i64 k ∧ s = .complex .f64 a b ∧ likeB a (sumF (((l.zip m).map mStep).take k)).1 = true ∧ likeB b (sumF (((l.zip m).map mStep).take k)).2 = true ∧ wr = w.drewN n) (fun _ i _ => l.length - (intOf i).toNat)
  case atStart => exact ⟨0, 0, 0, 0, Nat.zero_le _, rfl, rfl, like_refl _, like_refl _, rfl⟩
  case round =>
    obtain ⟨k, a, b, n, hk, rfl, rfl, h1, h2, rfl⟩ := hrel
    by_cases hlt : k < l.length
    · have hck := hc k hlt
      have hdk := hd k (by omega)
      have hs := Lib.hid (sumF_take ((l.zip m).map mStep) k (by omega))
      have hg : ((l.zip m).map mStep)[k]'(by omega) = mStep (l[k], m[k]'(by omega)) := by rw [List.getElem_map, List.getElem_zip]
      have HG := Lib.hid hg
      clear hg
      go_wp2_with (first
        | (go_at_call 15; refine (Mul_c _ _ _ _ _).mono ?_; rintro e w' ⟨a1, b1, m1, rfl, e1, e2, rfl⟩)
        | (go_at_call 13; refine (Add_c _ _ _ _ _).mono ?_; rintro e w' ⟨a', b', m2, rfl, g1, g2, rfl⟩))
      go_roundw
      case rel =>
        exact ⟨k + 1, a', b', _, by omega, by go_num, rfl, by rw [hs.out, HG.out]; exact like_trans g1 (fop_like h1 e1), by rw [hs.out, HG.out]; exact like_trans g2 (fop_like h2 e2), rfl⟩
      case measure => simp [intOf]; omega
    · have hk' : k = l.length := by omega
      have H1 := Lib.hid h1
      have H2 := Lib.hid h2
      clear h1 h2
      go_wp2
      go_ret2
      exact ⟨_, _, _, rfl, by have := H1.out; rwa [List.take_of_length_le (by omega)] at this, by have := H2.out; rwa [List.take_of_length_le (by omega)] at this, rfl⟩
end Go.Proofs.Ytnnefiefgpahdaa
