/- Contracts: Sum of package cplx; the calls whose answers the document fixes. -/
import Derived.Test.YtnnefiefgpahdaaC8
set_option linter.unusedSimpArgs false
set_option linter.unusedVariables false
namespace Go.Proofs.Ytnnefiefgpahdaa
open Go Go.RowKit Ff
attribute [local go_sem] f_lt f_gt f_eq f_ne run_add run_sub run_mul run_quo k_inf k_nan finC_ne

def cStep (s z : Nat × Nat) : Nat × Nat := (fop .add s.1 z.1, fop .add s.2 z.2)
def sumF (l : List (Nat × Nat)) : Nat × Nat := l.foldl cStep (0, 0)
theorem sumF_take (l : List (Nat × Nat)) (k : Nat) (h : k < l.length) : sumF (l.take (k + 1)) = cStep (sumF (l.take k)) l[k] := by
  unfold sumF; rw [List.take_succ_eq_append_getElem h, List.foldl_append]; rfl
theorem Sum_c (l : List (Nat × Nat)) (ad : Addr) (cap : Nat) (w : World) (hl : l.length ≤ maxLen) (hc : ∀ k (h : k < l.length), w.cell? (ad.add k) = some (.complex .f64 l[k].1 l[k].2)) :
    Calls Try.prog 6 #[.slice (some ad) l.length cap] w (CPost (sumF l).1 (sumF l).2 w) := by
  unfold maxLen at hl
  go_enter Try.func6, Try.ntmps6
  go_wp2
  go_loopw [3, 8] (fun s i wr => ∃ (k a b n : Nat), k ≤ l.length ∧ i = .int .i64 k ∧ s = .complex .f64 a b ∧ likeB a (sumF (l.take k)).1 = true ∧ likeB b (sumF (l.take k)).2 = true ∧ wr = w.drewN n) (fun _ i _ => l.length - (intOf i).toNat)
  case atStart => exact ⟨0, 0, 0, 0, Nat.zero_le _, rfl, rfl, like_refl _, like_refl _, rfl⟩
  case round =>
    obtain ⟨k, a, b, n, hk, rfl, rfl, h1, h2, rfl⟩ := hrel
    by_cases hlt : k < l.length
    · have hck := hc k hlt
      have hs := Lib.hid (sumF_take l k hlt)
      go_wp2_with (go_at_call 13; refine (Add_c _ _ _ _ _).mono ?_; rintro e w' ⟨a', b', m, rfl, g1, g2, rfl⟩)
      go_roundw
      case rel =>
        exact ⟨k + 1, a', b', _, by omega, by go_num, rfl, by rw [hs.out]; exact like_trans g1 (fop_like h1 (like_refl _)), by rw [hs.out]; exact like_trans g2 (fop_like h2 (like_refl _)), rfl⟩
      case measure => simp [intOf]; omega
    · have hk' : k = l.length := by omega
      have H1 := Lib.hid h1
      have H2 := Lib.hid h2
      clear h1 h2
      go_wp2
      go_ret
      exact ⟨_, _, _, rfl, by have := H1.out; rwa [List.take_of_length_le (by omega)] at this, by have := H2.out; rwa [List.take_of_length_le (by omega)] at this, rfl⟩
theorem feq_of_like {a b : Nat} (h : likeB a b = true) (hn : ¬ isn b) : a = b := by
  rcases (like_iff _ _).1 h with ⟨_, c⟩ | c
  · exact absurd c hn
  · exact c
theorem CPost.fixed {re im : Nat} {w : World} {e : Ending} {w' : World} (h : CPost re im w e w') (h1 : ¬ isn re) (h2 : ¬ isn im) : ∃ n, e = .returned (.complex .f64 re im) ∧ w' = w.drewN n := by
  obtain ⟨a, b, n, rfl, g1, g2, rfl⟩ := h
  rw [feq_of_like g1 h1, feq_of_like g2 h2]; exact ⟨n, rfl, rfl⟩
theorem FPost.fixed {r : Nat} {w : World} {e : Ending} {w' : World} (h : FPost r w e w') (h1 : ¬ isn r) : ∃ n, e = .returned (.float .f64 r) ∧ w' = w.drewN n := by
  obtain ⟨a, n, rfl, g1, rfl⟩ := h
  rw [feq_of_like g1 h1]; exact ⟨n, rfl, rfl⟩
theorem mul_awake : mulR 4607182418800017408 4611686018427387904 4613937818241073152 4616189618054758400 = 13840687554816376832 ∧ mulI 4607182418800017408 4611686018427387904 4613937818241073152 4616189618054758400 = 4621819117588971520 := by
  unfold mulR mulI fop; decide +kernel
theorem sqr_awake : sqrR 4607182418800017408 4611686018427387904 = 13837309855095848960 ∧ sqrI 4607182418800017408 4611686018427387904 = 4616189618054758400 := by
  unfold sqrR sqrI fop; decide +kernel
theorem sum_awake : sumF [(4607182418800017408, 4611686018427387904), (4613937818241073152, 4616189618054758400), (4607182418800017408, 4611686018427387904)] = (4617315517961601024, 4620693217682128896) := by
  unfold sumF cStep; simp only [List.foldl]; unfold fop; decide +kernel
theorem hi_awake : fltB (loF 4613937818241073152 4616189618054758400) (hiF 4613937818241073152 4616189618054758400) = true := by
  unfold fltB loF hiF finC bigF smallF fltB loV hiV underF downF upF sqF fop; decide +kernel
end Go.Proofs.Ytnnefiefgpahdaa
