/- Contracts: division by one word; what each statement asks besides (awake). -/
import Derived.Test.YtjcicbnjoffbhaaN22
set_option linter.unusedSimpArgs false
set_option linter.unusedVariables false
namespace Go.Proofs.Ytjcicbnjoffbhaa
open Go Go.RowKit Nt

/-- What a division leaves. -/
def DivPost (q r : Nat) (w : World) (e : Ending) (w' : World) : Prop :=
  ∃ A c A' c', e = .returned (.tuple #[.slice A (nd W q) c, .slice A' (nd W r) c']) ∧ nd W q ≤ c ∧ nd W r ≤ c' ∧ Row w' w'.heap.size A q (nd W q) ∧ Row w' w'.heap.size A' r (nd W r) ∧ Below w.heap.size w w'
theorem one_word {b : Nat} (h : nd W b = 1) : dgt W b 0 = b ∧ b ≠ 0 ∧ b < 18446744073709551616 := by
  have h1 : b < W ^ 1 := (lt_pow_iff W2 1 b).2 (by omega)
  rw [Nat.pow_one] at h1
  refine ⟨by rw [dgt_def, Nat.pow_zero, Nat.div_one, Nat.mod_eq_of_lt h1], fun c => ?_, by rw [← W_eq]; exact h1⟩
  subst c; rw [nd_zero] at h; omega
set_option maxRecDepth 100000 in
set_option maxHeartbeats 1000000 in
theorem Div_one (A A' : Option Addr) (c c' a b : Nat) (w : World) (hb1 : nd W b = 1) (hab : b ≤ a) (hL : nd W a ≤ 1000000000) (hr : Row w w.heap.size A a (nd W a)) (hr' : Row w w.heap.size A' b (nd W b)) :
    Calls Try.prog 78 #[.slice A (nd W a) c, .slice A' (nd W b) c'] w (DivPost (a / b) (a % b) w) := by
  have hcmp := cmp_pos hab
  have hcm := Cmp_c A A' c c' a b w.heap.size w hL (by omega) hr hr'
  have HCM := Lib.hid hcm
  obtain ⟨g', rfl, hg', hcell⟩ := hr'.at_ (k := 0) (by omega)
  obtain ⟨e1, e2, e3⟩ := one_word hb1
  rw [e1] at hcell
  have HR := Lib.hid hr
  have HR' := Lib.hid hr'
  have HE2 := Lib.hid e2
  have HE3 := Lib.hid e3
  have HLL := Lib.hid hL
  have H1 := Lib.hid hb1
  rw [hb1] at HCM ⊢
  clear hcm hr hr' e1 e2 e3 hab hL hb1
  go_enter Try.func78, Try.ntmps78
  go_wp2
  go_step3
  go_wp2_with (first
    | (go_at_call 96; refine HCM.out.mono ?_; rintro e w1 ⟨rfl, nn, rfl⟩)
    | (go_at_call 86; refine (Take_c A c a b _ _ HE2.out HE3.out HLL.out (HR.out.drewN nn) (Nat.le_refl _)).mono ?_; rintro e w2 ⟨A2, c2, rfl, hA2, hs2, hc2, hr2, hb2⟩; have HR2 := Lib.hid hr2; clear hA2 hr2)
    | (go_at_call 97; refine (Of_c _ _ (by exact Nat.lt_of_lt_of_le (Nat.mod_lt _ (Nat.pos_of_ne_zero HE2.out)) (Nat.le_of_lt HE3.out))).mono ?_; intro e w3 hp; obtain ⟨A3, c3, rfl, hc3, hr3, hb3⟩ := hp.get; have HR3 := Lib.hid hr3; clear hr3 hp))
  rw [Exit.noGoto_ret]
  go_ret2
  exact ⟨_, _, _, _, rfl, hc2, hc3, (HR2.out.below hb3).more hb3.size, HR3.out, (below_drewN (Below.refl _ _) nn).trans (hb2.trans (hb3.mono hb2.size))⟩
/-- Two texts and an error. -/
def Str2Post (s t : ByteArray) (r : Int) (w : World) (e : Ending) (w' : World) : Prop := e = .returned (.tuple #[.string s, .string t, .int .i64 r]) ∧ Below w.heap.size w w'
theorem bodyPost3 : True := trivial
set_option maxRecDepth 100000 in
set_option maxHeartbeats 1000000 in
theorem NDiv_of (a b : Nat) (w : World) (ha : fits a) (hb : fits b) (hb0 : b ≠ 0)
    (hdiv : ∀ (A A' : Option Addr) (c c' : Nat) (w : World), Row w w.heap.size A a (nd W a) → Row w w.heap.size A' b (nd W b) → Calls Try.prog 78 #[.slice A (nd W a) c, .slice A' (nd W b) c'] w (DivPost (a / b) (a % b) w)) :
    Calls Try.prog 43 #[.string (natS a), .string (natS b)] w (Str2Post (natS (a / b)) (natS (a % b)) 0 w) := by
  have hm := may2 ha hb
  have n1 := natS_full hb0
  have n2 := natS_full2 hb0
  have hq := fits_words (fits_le ha (Nat.div_le_self a b))
  have hrr := fits_words (fits_le ha (Nat.mod_le a b))
  have HDV := Lib.hid hdiv
  clear hdiv
  go_enter Try.func43, Try.ntmps43
  go_upto_region 6 with (first
    | (go_at_call 60; refine (all_c _ 2 [natS a, natS b] _ (by simp) (strs_new w 22 [natS a, natS b])).mono ?_; rintro e w' ⟨rfl, rfl⟩))
  have hbw : Below w.heap.size w (w.alloc (.cells #[.string (natS a), .string (natS b)] 22)) := (Below.refl _ _).alloc (Nat.le_refl _) _
  generalize w.alloc (.cells #[.string (natS a), .string (natS b)] 22) = w1 at *
  go_wp2_with fail
  refine (words_c a _ ha).mono ?_
  intro e w2 hp
  obtain ⟨A1, c1, rfl, hc1, hr1, hb2⟩ := hp.get
  have HR1 := Lib.hid hr1
  clear hr1 hp
  go_wp2_with fail
  refine (words_c b _ hb).mono ?_
  intro e w3 hp
  obtain ⟨A2, c2, rfl, hc2, hr2, hb3⟩ := hp.get
  have HR2 := Lib.hid hr2
  clear hr2 hp
  go_wp2_with fail
  refine (HDV.out A1 A2 c1 c2 w3 ((HR1.out.below hb3).more hb3.size) HR2.out).mono ?_
  rintro e w4 ⟨A3, c3, A4, c4, rfl, hc3, hc4, hr3, hr4, hb4⟩
  have HR3 := Lib.hid hr3
  have HR4 := Lib.hid hr4
  clear hr3 hr4
  go_wp2_with fail
  refine (Bytes_c A3 c3 (a / b) w4.heap.size w4 (by omega) HR3.out (Nat.le_refl _)).mono ?_
  rintro e w5 ⟨rfl, hb5⟩
  go_wp2_with fail
  refine (Bytes_c A4 c4 (a % b) w5.heap.size w5 (by omega) ((HR4.out.below hb5).more hb5.size) (Nat.le_refl _)).mono ?_
  rintro e w6 ⟨rfl, hb6⟩
  go_wp2
  have hfin : Below w.heap.size w w6 := hbw.trans ((hb2.mono hbw.size).trans ((hb3.mono (Nat.le_trans hbw.size hb2.size)).trans ((hb4.mono (Nat.le_trans hbw.size (Nat.le_trans hb2.size hb3.size))).trans ((hb5.mono (Nat.le_trans hbw.size (Nat.le_trans hb2.size (Nat.le_trans hb3.size hb4.size)))).trans (hb6.mono (Nat.le_trans hbw.size (Nat.le_trans hb2.size (Nat.le_trans hb3.size (Nat.le_trans hb4.size hb5.size)))))))))
  first
    | (go_ret3; exact ⟨rfl, hfin⟩)
    | exact bodyPost_ret (v := .tuple #[.string (natS (a / b)), .string (natS (a % b)), .int .i64 0]) (by simp [results, Try.results43, go_sem]) rfl ⟨rfl, hfin⟩
set_option maxRecDepth 100000 in
theorem NDiv_no (s t : ByteArray) (w : World) (h : ¬ (May s ∧ May t)) :
    Calls Try.prog 43 #[.string s, .string t] w (Str2Post ⟨#[]⟩ ⟨#[]⟩ 2 w) := by
  have hm := may2_no h
  go_enter Try.func43, Try.ntmps43
  go_wp2_with (first | (go_at_call 60; refine (all_c _ 2 [s, t] _ (by simp) (strs_new w 22 [s, t])).mono ?_; rintro e w' ⟨rfl, rfl⟩))
  have hfin : Below w.heap.size w (w.alloc (.cells #[.string s, .string t] 22)) := (Below.refl _ _).alloc (Nat.le_refl _) _
  first
    | (go_ret3; exact ⟨rfl, hfin⟩)
    | exact bodyPost_ret (v := .tuple #[.string ⟨#[]⟩, .string ⟨#[]⟩, .int .i64 2]) (by simp [results, Try.results43, go_sem]) rfl ⟨rfl, hfin⟩
end Go.Proofs.Ytjcicbnjoffbhaa
