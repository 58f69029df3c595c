/- Texts put together: P9 P12 Sy D6 P14 Post. -/
import Derived.Test.YtajcapliokblfaaDoorQ4
import Derived.Laws.RangeString
import Derived.Lib.OthersKept
import Derived.Test.YtajcapliokblfaaDoorQ2
import Derived.Below
import Derived.ChangeSame
set_option linter.unusedSimpArgs false
set_option linter.unusedVariables false
namespace Go.Proofs.YtajcapliokblfaaDoor
open Go Go.RowKit Nt

theorem nd_addW4 {x y m : Nat} (hx : nd W x ≤ m) (hy : nd W y ≤ m) : nd W (x + y) ≤ m + 1 := by
  refine nd_le W2 ?_
  have h1 := (lt_pow_iff W2 m x).2 hx
  have h2 := (lt_pow_iff W2 m y).2 hy
  rw [Nat.pow_succ]
  have h4 := Nat.mul_le_mul_left (W ^ m) W2
  omega
theorem q_words {q : Rat} (h : qfits q) : nd W (qN q) ≤ 2048 ∧ nd W (qD q) ≤ 2048 := ⟨fits_words h.1, fits_words h.2⟩
theorem low_words {n k : Nat} (h : nd W n ≤ k) (hk : k ≤ 9000) : nd W n ≤ 9000 := Nat.le_trans h hk
theorem ad_words {g h : Bool} {x y k : Nat} (hx : nd W x ≤ k) (hy : nd W y ≤ k) : nd W (adN g x h y) ≤ k + 1 := Nat.le_trans (nd_mono W2 (adN_le g x h y)) (nd_addW4 hx hy)
theorem Flow_c (g : Bool) (n d : Nat) (A A' : Option Addr) (c c' : Nat) (w : World) (hd : d ≠ 0) (h1 : nd W n ≤ 9000) (h2 : nd W d ≤ 9000) (hc : nd W n ≤ c) (hc' : nd W d ≤ c') (r1 : Row w w.heap.size A n (nd W n)) (r2 : Row w w.heap.size A' d (nd W d)) :
    Calls Tryd.prog 41 #[.agg #[.bool g, .slice A (nd W n) c, .slice A' (nd W d) c']] w (LwPost (fr g n d) w) := by
  by_cases hn : n = 0
  · subst hn; exact Flow_zero g d A A' c c' w
  · exact Flow_num g n d A A' c c' w hn hd h1 h2 hc hc' r1 r2
theorem fr_sub (a b : Rat) : fr (adG (qG a) (qN a * qD b) (!qG b) (qN b * qD a)) (adN (qG a) (qN a * qD b) (!qG b) (qN b * qD a)) (qD a * qD b) = a - b := by
  have h : ∀ (g : Bool) (x y : Nat), sgI g (x * y) = sgI g x * (y : Int) := fun g x y => by cases g <;> simp [sgI, Int.neg_mul]
  unfold fr
  rw [ad_sgI, h, h, sgI_not, sgI_q, sgI_q, Int.neg_mul, ← Int.sub_eq_add_neg]
  unfold qD
  exact (Rat.sub_def' a b).symm
set_option maxRecDepth 100000 in
set_option maxHeartbeats 2000000 in
theorem Pwork_add (x y : Rat) (w : World) (hx : qfits x) (hy : qfits y) :
    Calls Tryd.prog 21 #[qv x, qv y, .func (.func 22) #[] #[]] w (LwPost (x + y) w) := by
  obtain ⟨q1, q2⟩ := q_words hx
  obtain ⟨q3, q4⟩ := q_words hy
  have KM1 := Lib.hid (fun w => PMay_yes x w hx)
  have KM2 := Lib.hid (fun w => PMay_yes y w hy)
  have KO1 := Lib.hid (fun w => Popen_c (qG x) (qN x) (qD x) w hx.1 hx.2)
  have KO2 := Lib.hid (fun w => Popen_c (qG y) (qN y) (qD y) w hy.1 hy.2)
  obtain ⟨G, hG⟩ : ∃ G, G = adG (qG x) (qN x * qD y) (qG y) (qN y * qD x) := ⟨_, rfl⟩
  obtain ⟨N, hN⟩ : ∃ N, N = adN (qG x) (qN x * qD y) (qG y) (qN y * qD x) := ⟨_, rfl⟩
  obtain ⟨D, hD⟩ : ∃ D, D = qD x * qD y := ⟨_, rfl⟩
  have KF : Hid (∀ (A A' B B' : Option Addr) (c c' b b' : Nat) (W' : World), Row W' W'.heap.size A (qN x) (nd W (qN x)) → Row W' W'.heap.size A' (qD x) (nd W (qD x)) → Row W' W'.heap.size B (qN y) (nd W (qN y)) → Row W' W'.heap.size B' (qD y) (nd W (qD y)) → Calls Tryd.prog 22 #[.agg #[.bool (qG x), .slice A (nd W (qN x)) c, .slice A' (nd W (qD x)) c'], .agg #[.bool (qG y), .slice B (nd W (qN y)) b, .slice B' (nd W (qD y)) b']] W' (FrPost G N D W')) := Lib.hid fun A A' B B' c c' b b' W' r1 r2 r3 r4 => by
    rw [hG, hN, hD]
    exact Fadd_c (qG x) (qG y) (qN x) (qD x) (qN y) (qD y) A A' B B' c c' b b' W' (by omega) (by omega) (by omega) (by omega) r1 r2 r3 r4
  have KL : Hid (∀ (A A' : Option Addr) (c c' : Nat) (W' : World), nd W N ≤ c → nd W D ≤ c' → Row W' W'.heap.size A N (nd W N) → Row W' W'.heap.size A' D (nd W D) → Calls Tryd.prog 41 #[.agg #[.bool G, .slice A (nd W N) c, .slice A' (nd W D) c']] W' (LwPost (x + y) W')) := Lib.hid fun A A' c c' W' hc hc' r1 r2 => by
    rw [← fr_add x y, hG, hN, hD]
    rw [hN] at hc r1
    rw [hD] at hc' r2
    exact Flow_c _ _ _ A A' c c' W' (Nat.mul_ne_zero (qD_pos x) (qD_pos y)) (Nat.le_trans (ad_words (k := 4096) (nd_mul_le q1 q4) (nd_mul_le q3 q2)) (by omega)) (Nat.le_trans (nd_mul_le q2 q4) (by omega)) hc hc' r1 r2
  clear hG hN hD q1 q2 q3 q4 hx hy
  try clear hy0
  obtain ⟨bl, hbl⟩ : ∃ bl : List C3, bl = [(.bool (qG x), .string (natS (qN x)), .string (natS (qD x))), (.bool (qG y), .string (natS (qN y)), .string (natS (qD y)))] := ⟨_, rfl⟩
  have hbn : bl.length = 2 := by rw [hbl]; rfl
  have T0 := BR.start2 w (.bool (qG x)) (.string (natS (qN x))) (.string (natS (qD x))) (.bool (qG y)) (.string (natS (qN y))) (.string (natS (qD y))) false (.string ⟨#[]⟩) (.string ⟨#[]⟩) 25 25 25
  rw [← hbl] at T0
  have L0 : ∀ U, BR w bl U → U.cell? ⟨w.heap.size, 0, none⟩ = some (.bool (qG x)) := fun U hU => (hU.box 0 (.bool (qG x), .string (natS (qN x)), .string (natS (qD x))) (by rw [hbl]; rfl)).2.1
  have L1 : ∀ U, BR w bl U → U.cell? ⟨w.heap.size, 1, none⟩ = some (.string (natS (qN x))) := fun U hU => (hU.box 0 (.bool (qG x), .string (natS (qN x)), .string (natS (qD x))) (by rw [hbl]; rfl)).2.2.1
  have L2 : ∀ U, BR w bl U → U.cell? ⟨w.heap.size, 2, none⟩ = some (.string (natS (qD x))) := fun U hU => (hU.box 0 (.bool (qG x), .string (natS (qN x)), .string (natS (qD x))) (by rw [hbl]; rfl)).2.2.2.1
  have L3 : ∀ U, BR w bl U → U.cell? ⟨w.heap.size + 1, 0, none⟩ = some (.bool (qG y)) := fun U hU => (hU.box 1 (.bool (qG y), .string (natS (qN y)), .string (natS (qD y))) (by rw [hbl]; rfl)).2.1
  have L4 : ∀ U, BR w bl U → U.cell? ⟨w.heap.size + 1, 1, none⟩ = some (.string (natS (qN y))) := fun U hU => (hU.box 1 (.bool (qG y), .string (natS (qN y)), .string (natS (qD y))) (by rw [hbl]; rfl)).2.2.1
  have L5 : ∀ U, BR w bl U → U.cell? ⟨w.heap.size + 1, 2, none⟩ = some (.string (natS (qD y))) := fun U hU => (hU.box 1 (.bool (qG y), .string (natS (qN y)), .string (natS (qD y))) (by rw [hbl]; rfl)).2.2.2.1
  have M1 := fun U (hU : BR w bl U) => (hU.res (n := 2) hbn).2.1
  have M2 := fun U (hU : BR w bl U) => (hU.res (n := 2) hbn).2.2.1
  have M3 := fun U (hU : BR w bl U) => (hU.res (n := 2) hbn).2.2.2.1
  have M4 := fun U (hU : BR w bl U) => (hU.res (n := 2) hbn).2.2.2.2.1
  have M5 := fun U (hU : BR w bl U) => (hU.res (n := 2) hbn).2.2.2.2.2.1
  have M6 := fun U (hU : BR w bl U) => (hU.res (n := 2) hbn).2.2.2.2.2.2
  have HBL := Lib.hid hbl
  clear hbl
  obtain ⟨p0, p1, p2, p3, p4, p5, p6⟩ := T0.box 0 (.bool (qG x), .string (natS (qN x)), .string (natS (qD x))) (by rw [HBL.out]; rfl)
  obtain ⟨s0, s1, s2, s3, s4, s5, s6⟩ := T0.box 1 (.bool (qG y), .string (natS (qN y)), .string (natS (qD y))) (by rw [HBL.out]; rfl)
  unfold qv at *
  generalize x + y = z at *
  go_enter Tryd.func21, Tryd.ntmps21
  go_upto_region 3 with (first
    | (go_at_call 14; (with_reducible refine (KM1.out _).mono ?_); rintro ee w1 ⟨rfl, hb⟩; replace T0 := T0.step hb; clear hb; obtain ⟨p0, p1, p2, p3, p4, p5, p6⟩ := T0.box 0 (.bool (qG x), .string (natS (qN x)), .string (natS (qD x))) (by rw [HBL.out]; rfl); obtain ⟨s0, s1, s2, s3, s4, s5, s6⟩ := T0.box 1 (.bool (qG y), .string (natS (qN y)), .string (natS (qD y))) (by rw [HBL.out]; rfl))
    | (go_at_call 14; (with_reducible refine (KM2.out _).mono ?_); rintro ee w1 ⟨rfl, hb⟩; replace T0 := T0.step hb; clear hb; obtain ⟨p0, p1, p2, p3, p4, p5, p6⟩ := T0.box 0 (.bool (qG x), .string (natS (qN x)), .string (natS (qD x))) (by rw [HBL.out]; rfl); obtain ⟨s0, s1, s2, s3, s4, s5, s6⟩ := T0.box 1 (.bool (qG y), .string (natS (qN y)), .string (natS (qD y))) (by rw [HBL.out]; rfl)))
  clear p0 p1 p2 p3 p4 p5 p6 s0 s1 s2 s3 s4 s5 s6 KM1 KM2
  go_region_held3 (BR w bl) (first | assumption | exact BR.step (by assumption) (by assumption) | exact BR.put (by assumption) hbn _ _ _ | exact BR.drew (by assumption) | exact BR.drawn (by assumption) _)
    (first
      | (go_at_call 26; (with_reducible refine (KO1.out _).mono ?_); rintro ee wa ⟨A1, c1, A2, c2, rfl, hc1, hc2, hr1, hr2, hb1⟩)
      | (go_at_call 26; (with_reducible refine (KO2.out _).mono ?_); rintro ee wb ⟨A3, c3, A4, c4, rfl, hc3, hc4, hr3, hr4, hb2⟩; have hr1' := (hr1.below hb2).more hb2.size; have hr2' := (hr2.below hb2).more hb2.size; clear hr1 hr2)
      | (go_at_call 22; (refine (KF.out _ _ _ _ _ _ _ _ _ hr1' hr2' hr3 hr4).mono ?_); rintro ee wc ⟨A5, c5, A6, c6, rfl, hc5, hc6, hr5, hr6, hb3⟩; clear hr1' hr2' hr3 hr4)
      | (go_at_call 41; (refine (KL.out _ _ _ _ _ hc5 hc6 hr5 hr6).mono ?_); rintro ee wd ⟨rfl, hb4⟩; have HSV := Lib.hid (BR.step (w := w) (by assumption) hb4)))
  obtain ⟨q0, q1, q2, q3, q4, q5, q6⟩ := HSV.out.res (n := 2) hbn
  have hfin := below_put3 HSV.out.1 (show w.heap.size ≤ w.heap.size + 2 by omega)
  clear L0 L1 L2 L3 L4 L5 M1 M2 M3 M4 M5 M6 T0
  go_wp2_with fail
  refine bodyPost_ret (v := .tuple #[.agg #[.bool (rsG z), .string (rsN z), .string (rsD z)], .int .i64 (rsE z)]) (by simp [results, Tryd.results21, go_sem, q0, q1, q2, q3]) rfl ⟨rfl, hfin _ _ _⟩
set_option maxRecDepth 100000 in
set_option maxHeartbeats 2000000 in
theorem Pwork_sub (x y : Rat) (w : World) (hx : qfits x) (hy : qfits y) :
    Calls Tryd.prog 21 #[qv x, qv y, .func (.func 24) #[] #[]] w (LwPost (x - y) w) := by
  obtain ⟨q1, q2⟩ := q_words hx
  obtain ⟨q3, q4⟩ := q_words hy
  have KM1 := Lib.hid (fun w => PMay_yes x w hx)
  have KM2 := Lib.hid (fun w => PMay_yes y w hy)
  have KO1 := Lib.hid (fun w => Popen_c (qG x) (qN x) (qD x) w hx.1 hx.2)
  have KO2 := Lib.hid (fun w => Popen_c (qG y) (qN y) (qD y) w hy.1 hy.2)
  obtain ⟨G, hG⟩ : ∃ G, G = adG (qG x) (qN x * qD y) (!qG y) (qN y * qD x) := ⟨_, rfl⟩
  obtain ⟨N, hN⟩ : ∃ N, N = adN (qG x) (qN x * qD y) (!qG y) (qN y * qD x) := ⟨_, rfl⟩
  obtain ⟨D, hD⟩ : ∃ D, D = qD x * qD y := ⟨_, rfl⟩
  have KF : Hid (∀ (A A' B B' : Option Addr) (c c' b b' : Nat) (W' : World), Row W' W'.heap.size A (qN x) (nd W (qN x)) → Row W' W'.heap.size A' (qD x) (nd W (qD x)) → Row W' W'.heap.size B (qN y) (nd W (qN y)) → Row W' W'.heap.size B' (qD y) (nd W (qD y)) → Calls Tryd.prog 24 #[.agg #[.bool (qG x), .slice A (nd W (qN x)) c, .slice A' (nd W (qD x)) c'], .agg #[.bool (qG y), .slice B (nd W (qN y)) b, .slice B' (nd W (qD y)) b']] W' (FrPost G N D W')) := Lib.hid fun A A' B B' c c' b b' W' r1 r2 r3 r4 => by
    rw [hG, hN, hD]
    exact Fsub_c (qG x) (qG y) (qN x) (qD x) (qN y) (qD y) A A' B B' c c' b b' W' (by omega) (by omega) (by omega) (by omega) r1 r2 r3 r4
  have KL : Hid (∀ (A A' : Option Addr) (c c' : Nat) (W' : World), nd W N ≤ c → nd W D ≤ c' → Row W' W'.heap.size A N (nd W N) → Row W' W'.heap.size A' D (nd W D) → Calls Tryd.prog 41 #[.agg #[.bool G, .slice A (nd W N) c, .slice A' (nd W D) c']] W' (LwPost (x - y) W')) := Lib.hid fun A A' c c' W' hc hc' r1 r2 => by
    rw [← fr_sub x y, hG, hN, hD]
    rw [hN] at hc r1
    rw [hD] at hc' r2
    exact Flow_c _ _ _ A A' c c' W' (Nat.mul_ne_zero (qD_pos x) (qD_pos y)) (Nat.le_trans (ad_words (k := 4096) (nd_mul_le q1 q4) (nd_mul_le q3 q2)) (by omega)) (Nat.le_trans (nd_mul_le q2 q4) (by omega)) hc hc' r1 r2
  clear hG hN hD q1 q2 q3 q4 hx hy
  try clear hy0
  obtain ⟨bl, hbl⟩ : ∃ bl : List C3, bl = [(.bool (qG x), .string (natS (qN x)), .string (natS (qD x))), (.bool (qG y), .string (natS (qN y)), .string (natS (qD y)))] := ⟨_, rfl⟩
  have hbn : bl.length = 2 := by rw [hbl]; rfl
  have T0 := BR.start2 w (.bool (qG x)) (.string (natS (qN x))) (.string (natS (qD x))) (.bool (qG y)) (.string (natS (qN y))) (.string (natS (qD y))) false (.string ⟨#[]⟩) (.string ⟨#[]⟩) 25 25 25
  rw [← hbl] at T0
  have L0 : ∀ U, BR w bl U → U.cell? ⟨w.heap.size, 0, none⟩ = some (.bool (qG x)) := fun U hU => (hU.box 0 (.bool (qG x), .string (natS (qN x)), .string (natS (qD x))) (by rw [hbl]; rfl)).2.1
  have L1 : ∀ U, BR w bl U → U.cell? ⟨w.heap.size, 1, none⟩ = some (.string (natS (qN x))) := fun U hU => (hU.box 0 (.bool (qG x), .string (natS (qN x)), .string (natS (qD x))) (by rw [hbl]; rfl)).2.2.1
  have L2 : ∀ U, BR w bl U → U.cell? ⟨w.heap.size, 2, none⟩ = some (.string (natS (qD x))) := fun U hU => (hU.box 0 (.bool (qG x), .string (natS (qN x)), .string (natS (qD x))) (by rw [hbl]; rfl)).2.2.2.1
  have L3 : ∀ U, BR w bl U → U.cell? ⟨w.heap.size + 1, 0, none⟩ = some (.bool (qG y)) := fun U hU => (hU.box 1 (.bool (qG y), .string (natS (qN y)), .string (natS (qD y))) (by rw [hbl]; rfl)).2.1
  have L4 : ∀ U, BR w bl U → U.cell? ⟨w.heap.size + 1, 1, none⟩ = some (.string (natS (qN y))) := fun U hU => (hU.box 1 (.bool (qG y), .string (natS (qN y)), .string (natS (qD y))) (by rw [hbl]; rfl)).2.2.1
  have L5 : ∀ U, BR w bl U → U.cell? ⟨w.heap.size + 1, 2, none⟩ = some (.string (natS (qD y))) := fun U hU => (hU.box 1 (.bool (qG y), .string (natS (qN y)), .string (natS (qD y))) (by rw [hbl]; rfl)).2.2.2.1
  have M1 := fun U (hU : BR w bl U) => (hU.res (n := 2) hbn).2.1
  have M2 := fun U (hU : BR w bl U) => (hU.res (n := 2) hbn).2.2.1
  have M3 := fun U (hU : BR w bl U) => (hU.res (n := 2) hbn).2.2.2.1
  have M4 := fun U (hU : BR w bl U) => (hU.res (n := 2) hbn).2.2.2.2.1
  have M5 := fun U (hU : BR w bl U) => (hU.res (n := 2) hbn).2.2.2.2.2.1
  have M6 := fun U (hU : BR w bl U) => (hU.res (n := 2) hbn).2.2.2.2.2.2
  have HBL := Lib.hid hbl
  clear hbl
  obtain ⟨p0, p1, p2, p3, p4, p5, p6⟩ := T0.box 0 (.bool (qG x), .string (natS (qN x)), .string (natS (qD x))) (by rw [HBL.out]; rfl)
  obtain ⟨s0, s1, s2, s3, s4, s5, s6⟩ := T0.box 1 (.bool (qG y), .string (natS (qN y)), .string (natS (qD y))) (by rw [HBL.out]; rfl)
  unfold qv at *
  generalize x - y = z at *
  go_enter Tryd.func21, Tryd.ntmps21
  go_upto_region 3 with (first
    | (go_at_call 14; (with_reducible refine (KM1.out _).mono ?_); rintro ee w1 ⟨rfl, hb⟩; replace T0 := T0.step hb; clear hb; obtain ⟨p0, p1, p2, p3, p4, p5, p6⟩ := T0.box 0 (.bool (qG x), .string (natS (qN x)), .string (natS (qD x))) (by rw [HBL.out]; rfl); obtain ⟨s0, s1, s2, s3, s4, s5, s6⟩ := T0.box 1 (.bool (qG y), .string (natS (qN y)), .string (natS (qD y))) (by rw [HBL.out]; rfl))
    | (go_at_call 14; (with_reducible refine (KM2.out _).mono ?_); rintro ee w1 ⟨rfl, hb⟩; replace T0 := T0.step hb; clear hb; obtain ⟨p0, p1, p2, p3, p4, p5, p6⟩ := T0.box 0 (.bool (qG x), .string (natS (qN x)), .string (natS (qD x))) (by rw [HBL.out]; rfl); obtain ⟨s0, s1, s2, s3, s4, s5, s6⟩ := T0.box 1 (.bool (qG y), .string (natS (qN y)), .string (natS (qD y))) (by rw [HBL.out]; rfl)))
  clear p0 p1 p2 p3 p4 p5 p6 s0 s1 s2 s3 s4 s5 s6 KM1 KM2
  go_region_held3 (BR w bl) (first | assumption | exact BR.step (by assumption) (by assumption) | exact BR.put (by assumption) hbn _ _ _ | exact BR.drew (by assumption) | exact BR.drawn (by assumption) _)
    (first
      | (go_at_call 26; (with_reducible refine (KO1.out _).mono ?_); rintro ee wa ⟨A1, c1, A2, c2, rfl, hc1, hc2, hr1, hr2, hb1⟩)
      | (go_at_call 26; (with_reducible refine (KO2.out _).mono ?_); rintro ee wb ⟨A3, c3, A4, c4, rfl, hc3, hc4, hr3, hr4, hb2⟩; have hr1' := (hr1.below hb2).more hb2.size; have hr2' := (hr2.below hb2).more hb2.size; clear hr1 hr2)
      | (go_at_call 24; (refine (KF.out _ _ _ _ _ _ _ _ _ hr1' hr2' hr3 hr4).mono ?_); rintro ee wc ⟨A5, c5, A6, c6, rfl, hc5, hc6, hr5, hr6, hb3⟩; clear hr1' hr2' hr3 hr4)
      | (go_at_call 41; (refine (KL.out _ _ _ _ _ hc5 hc6 hr5 hr6).mono ?_); rintro ee wd ⟨rfl, hb4⟩; have HSV := Lib.hid (BR.step (w := w) (by assumption) hb4)))
  obtain ⟨q0, q1, q2, q3, q4, q5, q6⟩ := HSV.out.res (n := 2) hbn
  have hfin := below_put3 HSV.out.1 (show w.heap.size ≤ w.heap.size + 2 by omega)
  clear L0 L1 L2 L3 L4 L5 M1 M2 M3 M4 M5 M6 T0
  go_wp2_with fail
  refine bodyPost_ret (v := .tuple #[.agg #[.bool (rsG z), .string (rsN z), .string (rsD z)], .int .i64 (rsE z)]) (by simp [results, Tryd.results21, go_sem, q0, q1, q2, q3]) rfl ⟨rfl, hfin _ _ _⟩
set_option maxRecDepth 100000 in
set_option maxHeartbeats 2000000 in
theorem Pwork_mul (x y : Rat) (w : World) (hx : qfits x) (hy : qfits y) :
    Calls Tryd.prog 21 #[qv x, qv y, .func (.func 23) #[] #[]] w (LwPost (x * y) w) := by
  obtain ⟨q1, q2⟩ := q_words hx
  obtain ⟨q3, q4⟩ := q_words hy
  have KM1 := Lib.hid (fun w => PMay_yes x w hx)
  have KM2 := Lib.hid (fun w => PMay_yes y w hy)
  have KO1 := Lib.hid (fun w => Popen_c (qG x) (qN x) (qD x) w hx.1 hx.2)
  have KO2 := Lib.hid (fun w => Popen_c (qG y) (qN y) (qD y) w hy.1 hy.2)
  obtain ⟨G, hG⟩ : ∃ G, G = (qG x != qG y) := ⟨_, rfl⟩
  obtain ⟨N, hN⟩ : ∃ N, N = qN x * qN y := ⟨_, rfl⟩
  obtain ⟨D, hD⟩ : ∃ D, D = qD x * qD y := ⟨_, rfl⟩
  have KF : Hid (∀ (A A' B B' : Option Addr) (c c' b b' : Nat) (W' : World), Row W' W'.heap.size A (qN x) (nd W (qN x)) → Row W' W'.heap.size A' (qD x) (nd W (qD x)) → Row W' W'.heap.size B (qN y) (nd W (qN y)) → Row W' W'.heap.size B' (qD y) (nd W (qD y)) → Calls Tryd.prog 23 #[.agg #[.bool (qG x), .slice A (nd W (qN x)) c, .slice A' (nd W (qD x)) c'], .agg #[.bool (qG y), .slice B (nd W (qN y)) b, .slice B' (nd W (qD y)) b']] W' (FrPost G N D W')) := Lib.hid fun A A' B B' c c' b b' W' r1 r2 r3 r4 => by
    rw [hG, hN, hD]
    exact Fmul_c (qG x) (qG y) (qN x) (qD x) (qN y) (qD y) A A' B B' c c' b b' W' (by omega) (by omega) (by omega) (by omega) r1 r2 r3 r4
  have KL : Hid (∀ (A A' : Option Addr) (c c' : Nat) (W' : World), nd W N ≤ c → nd W D ≤ c' → Row W' W'.heap.size A N (nd W N) → Row W' W'.heap.size A' D (nd W D) → Calls Tryd.prog 41 #[.agg #[.bool G, .slice A (nd W N) c, .slice A' (nd W D) c']] W' (LwPost (x * y) W')) := Lib.hid fun A A' c c' W' hc hc' r1 r2 => by
    rw [← fr_mul x y, hG, hN, hD]
    rw [hN] at hc r1
    rw [hD] at hc' r2
    exact Flow_c _ _ _ A A' c c' W' (Nat.mul_ne_zero (qD_pos x) (qD_pos y)) (Nat.le_trans (nd_mul_le q1 q3) (by omega)) (Nat.le_trans (nd_mul_le q2 q4) (by omega)) hc hc' r1 r2
  clear hG hN hD q1 q2 q3 q4 hx hy
  try clear hy0
  obtain ⟨bl, hbl⟩ : ∃ bl : List C3, bl = [(.bool (qG x), .string (natS (qN x)), .string (natS (qD x))), (.bool (qG y), .string (natS (qN y)), .string (natS (qD y)))] := ⟨_, rfl⟩
  have hbn : bl.length = 2 := by rw [hbl]; rfl
  have T0 := BR.start2 w (.bool (qG x)) (.string (natS (qN x))) (.string (natS (qD x))) (.bool (qG y)) (.string (natS (qN y))) (.string (natS (qD y))) false (.string ⟨#[]⟩) (.string ⟨#[]⟩) 25 25 25
  rw [← hbl] at T0
  have L0 : ∀ U, BR w bl U → U.cell? ⟨w.heap.size, 0, none⟩ = some (.bool (qG x)) := fun U hU => (hU.box 0 (.bool (qG x), .string (natS (qN x)), .string (natS (qD x))) (by rw [hbl]; rfl)).2.1
  have L1 : ∀ U, BR w bl U → U.cell? ⟨w.heap.size, 1, none⟩ = some (.string (natS (qN x))) := fun U hU => (hU.box 0 (.bool (qG x), .string (natS (qN x)), .string (natS (qD x))) (by rw [hbl]; rfl)).2.2.1
  have L2 : ∀ U, BR w bl U → U.cell? ⟨w.heap.size, 2, none⟩ = some (.string (natS (qD x))) := fun U hU => (hU.box 0 (.bool (qG x), .string (natS (qN x)), .string (natS (qD x))) (by rw [hbl]; rfl)).2.2.2.1
  have L3 : ∀ U, BR w bl U → U.cell? ⟨w.heap.size + 1, 0, none⟩ = some (.bool (qG y)) := fun U hU => (hU.box 1 (.bool (qG y), .string (natS (qN y)), .string (natS (qD y))) (by rw [hbl]; rfl)).2.1
  have L4 : ∀ U, BR w bl U → U.cell? ⟨w.heap.size + 1, 1, none⟩ = some (.string (natS (qN y))) := fun U hU => (hU.box 1 (.bool (qG y), .string (natS (qN y)), .string (natS (qD y))) (by rw [hbl]; rfl)).2.2.1
  have L5 : ∀ U, BR w bl U → U.cell? ⟨w.heap.size + 1, 2, none⟩ = some (.string (natS (qD y))) := fun U hU => (hU.box 1 (.bool (qG y), .string (natS (qN y)), .string (natS (qD y))) (by rw [hbl]; rfl)).2.2.2.1
  have M1 := fun U (hU : BR w bl U) => (hU.res (n := 2) hbn).2.1
  have M2 := fun U (hU : BR w bl U) => (hU.res (n := 2) hbn).2.2.1
  have M3 := fun U (hU : BR w bl U) => (hU.res (n := 2) hbn).2.2.2.1
  have M4 := fun U (hU : BR w bl U) => (hU.res (n := 2) hbn).2.2.2.2.1
  have M5 := fun U (hU : BR w bl U) => (hU.res (n := 2) hbn).2.2.2.2.2.1
  have M6 := fun U (hU : BR w bl U) => (hU.res (n := 2) hbn).2.2.2.2.2.2
  have HBL := Lib.hid hbl
  clear hbl
  obtain ⟨p0, p1, p2, p3, p4, p5, p6⟩ := T0.box 0 (.bool (qG x), .string (natS (qN x)), .string (natS (qD x))) (by rw [HBL.out]; rfl)
  obtain ⟨s0, s1, s2, s3, s4, s5, s6⟩ := T0.box 1 (.bool (qG y), .string (natS (qN y)), .string (natS (qD y))) (by rw [HBL.out]; rfl)
  unfold qv at *
  generalize x * y = z at *
  go_enter Tryd.func21, Tryd.ntmps21
  go_upto_region 3 with (first
    | (go_at_call 14; (with_reducible refine (KM1.out _).mono ?_); rintro ee w1 ⟨rfl, hb⟩; replace T0 := T0.step hb; clear hb; obtain ⟨p0, p1, p2, p3, p4, p5, p6⟩ := T0.box 0 (.bool (qG x), .string (natS (qN x)), .string (natS (qD x))) (by rw [HBL.out]; rfl); obtain ⟨s0, s1, s2, s3, s4, s5, s6⟩ := T0.box 1 (.bool (qG y), .string (natS (qN y)), .string (natS (qD y))) (by rw [HBL.out]; rfl))
    | (go_at_call 14; (with_reducible refine (KM2.out _).mono ?_); rintro ee w1 ⟨rfl, hb⟩; replace T0 := T0.step hb; clear hb; obtain ⟨p0, p1, p2, p3, p4, p5, p6⟩ := T0.box 0 (.bool (qG x), .string (natS (qN x)), .string (natS (qD x))) (by rw [HBL.out]; rfl); obtain ⟨s0, s1, s2, s3, s4, s5, s6⟩ := T0.box 1 (.bool (qG y), .string (natS (qN y)), .string (natS (qD y))) (by rw [HBL.out]; rfl)))
  clear p0 p1 p2 p3 p4 p5 p6 s0 s1 s2 s3 s4 s5 s6 KM1 KM2
  go_region_held3 (BR w bl) (first | assumption | exact BR.step (by assumption) (by assumption) | exact BR.put (by assumption) hbn _ _ _ | exact BR.drew (by assumption) | exact BR.drawn (by assumption) _)
    (first
      | (go_at_call 26; (with_reducible refine (KO1.out _).mono ?_); rintro ee wa ⟨A1, c1, A2, c2, rfl, hc1, hc2, hr1, hr2, hb1⟩)
      | (go_at_call 26; (with_reducible refine (KO2.out _).mono ?_); rintro ee wb ⟨A3, c3, A4, c4, rfl, hc3, hc4, hr3, hr4, hb2⟩; have hr1' := (hr1.below hb2).more hb2.size; have hr2' := (hr2.below hb2).more hb2.size; clear hr1 hr2)
      | (go_at_call 23; (refine (KF.out _ _ _ _ _ _ _ _ _ hr1' hr2' hr3 hr4).mono ?_); rintro ee wc ⟨A5, c5, A6, c6, rfl, hc5, hc6, hr5, hr6, hb3⟩; clear hr1' hr2' hr3 hr4)
      | (go_at_call 41; (refine (KL.out _ _ _ _ _ hc5 hc6 hr5 hr6).mono ?_); rintro ee wd ⟨rfl, hb4⟩; have HSV := Lib.hid (BR.step (w := w) (by assumption) hb4)))
  obtain ⟨q0, q1, q2, q3, q4, q5, q6⟩ := HSV.out.res (n := 2) hbn
  have hfin := below_put3 HSV.out.1 (show w.heap.size ≤ w.heap.size + 2 by omega)
  clear L0 L1 L2 L3 L4 L5 M1 M2 M3 M4 M5 M6 T0
  go_wp2_with fail
  refine bodyPost_ret (v := .tuple #[.agg #[.bool (rsG z), .string (rsN z), .string (rsD z)], .int .i64 (rsE z)]) (by simp [results, Tryd.results21, go_sem, q0, q1, q2, q3]) rfl ⟨rfl, hfin _ _ _⟩
set_option maxRecDepth 100000 in
set_option maxHeartbeats 2000000 in
theorem Pwork_quo (x y : Rat) (w : World) (hx : qfits x) (hy : qfits y) (hy0 : qN y ≠ 0) :
    Calls Tryd.prog 21 #[qv x, qv y, .func (.func 25) #[] #[]] w (LwPost (x / y) w) := by
  obtain ⟨q1, q2⟩ := q_words hx
  obtain ⟨q3, q4⟩ := q_words hy
  have KM1 := Lib.hid (fun w => PMay_yes x w hx)
  have KM2 := Lib.hid (fun w => PMay_yes y w hy)
  have KO1 := Lib.hid (fun w => Popen_c (qG x) (qN x) (qD x) w hx.1 hx.2)
  have KO2 := Lib.hid (fun w => Popen_c (qG y) (qN y) (qD y) w hy.1 hy.2)
  obtain ⟨G, hG⟩ : ∃ G, G = (qG x != qG y) := ⟨_, rfl⟩
  obtain ⟨N, hN⟩ : ∃ N, N = qN x * qD y := ⟨_, rfl⟩
  obtain ⟨D, hD⟩ : ∃ D, D = qD x * qN y := ⟨_, rfl⟩
  have KF : Hid (∀ (A A' B B' : Option Addr) (c c' b b' : Nat) (W' : World), Row W' W'.heap.size A (qN x) (nd W (qN x)) → Row W' W'.heap.size A' (qD x) (nd W (qD x)) → Row W' W'.heap.size B (qN y) (nd W (qN y)) → Row W' W'.heap.size B' (qD y) (nd W (qD y)) → Calls Tryd.prog 25 #[.agg #[.bool (qG x), .slice A (nd W (qN x)) c, .slice A' (nd W (qD x)) c'], .agg #[.bool (qG y), .slice B (nd W (qN y)) b, .slice B' (nd W (qD y)) b']] W' (FrPost G N D W')) := Lib.hid fun A A' B B' c c' b b' W' r1 r2 r3 r4 => by
    rw [hG, hN, hD]
    exact Fquo_c (qG x) (qG y) (qN x) (qD x) (qN y) (qD y) A A' B B' c c' b b' W' (by omega) (by omega) (by omega) (by omega) r1 r2 r3 r4
  have KL : Hid (∀ (A A' : Option Addr) (c c' : Nat) (W' : World), nd W N ≤ c → nd W D ≤ c' → Row W' W'.heap.size A N (nd W N) → Row W' W'.heap.size A' D (nd W D) → Calls Tryd.prog 41 #[.agg #[.bool G, .slice A (nd W N) c, .slice A' (nd W D) c']] W' (LwPost (x / y) W')) := Lib.hid fun A A' c c' W' hc hc' r1 r2 => by
    rw [← fr_quo x y hy0, hG, hN, hD]
    rw [hN] at hc r1
    rw [hD] at hc' r2
    exact Flow_c _ _ _ A A' c c' W' (Nat.mul_ne_zero (qD_pos x) hy0) (Nat.le_trans (nd_mul_le q1 q4) (by omega)) (Nat.le_trans (nd_mul_le q2 q3) (by omega)) hc hc' r1 r2
  clear hG hN hD q1 q2 q3 q4 hx hy
  try clear hy0
  obtain ⟨bl, hbl⟩ : ∃ bl : List C3, bl = [(.bool (qG x), .string (natS (qN x)), .string (natS (qD x))), (.bool (qG y), .string (natS (qN y)), .string (natS (qD y)))] := ⟨_, rfl⟩
  have hbn : bl.length = 2 := by rw [hbl]; rfl
  have T0 := BR.start2 w (.bool (qG x)) (.string (natS (qN x))) (.string (natS (qD x))) (.bool (qG y)) (.string (natS (qN y))) (.string (natS (qD y))) false (.string ⟨#[]⟩) (.string ⟨#[]⟩) 25 25 25
  rw [← hbl] at T0
  have L0 : ∀ U, BR w bl U → U.cell? ⟨w.heap.size, 0, none⟩ = some (.bool (qG x)) := fun U hU => (hU.box 0 (.bool (qG x), .string (natS (qN x)), .string (natS (qD x))) (by rw [hbl]; rfl)).2.1
  have L1 : ∀ U, BR w bl U → U.cell? ⟨w.heap.size, 1, none⟩ = some (.string (natS (qN x))) := fun U hU => (hU.box 0 (.bool (qG x), .string (natS (qN x)), .string (natS (qD x))) (by rw [hbl]; rfl)).2.2.1
  have L2 : ∀ U, BR w bl U → U.cell? ⟨w.heap.size, 2, none⟩ = some (.string (natS (qD x))) := fun U hU => (hU.box 0 (.bool (qG x), .string (natS (qN x)), .string (natS (qD x))) (by rw [hbl]; rfl)).2.2.2.1
  have L3 : ∀ U, BR w bl U → U.cell? ⟨w.heap.size + 1, 0, none⟩ = some (.bool (qG y)) := fun U hU => (hU.box 1 (.bool (qG y), .string (natS (qN y)), .string (natS (qD y))) (by rw [hbl]; rfl)).2.1
  have L4 : ∀ U, BR w bl U → U.cell? ⟨w.heap.size + 1, 1, none⟩ = some (.string (natS (qN y))) := fun U hU => (hU.box 1 (.bool (qG y), .string (natS (qN y)), .string (natS (qD y))) (by rw [hbl]; rfl)).2.2.1
  have L5 : ∀ U, BR w bl U → U.cell? ⟨w.heap.size + 1, 2, none⟩ = some (.string (natS (qD y))) := fun U hU => (hU.box 1 (.bool (qG y), .string (natS (qN y)), .string (natS (qD y))) (by rw [hbl]; rfl)).2.2.2.1
  have M1 := fun U (hU : BR w bl U) => (hU.res (n := 2) hbn).2.1
  have M2 := fun U (hU : BR w bl U) => (hU.res (n := 2) hbn).2.2.1
  have M3 := fun U (hU : BR w bl U) => (hU.res (n := 2) hbn).2.2.2.1
  have M4 := fun U (hU : BR w bl U) => (hU.res (n := 2) hbn).2.2.2.2.1
  have M5 := fun U (hU : BR w bl U) => (hU.res (n := 2) hbn).2.2.2.2.2.1
  have M6 := fun U (hU : BR w bl U) => (hU.res (n := 2) hbn).2.2.2.2.2.2
  have HBL := Lib.hid hbl
  clear hbl
  obtain ⟨p0, p1, p2, p3, p4, p5, p6⟩ := T0.box 0 (.bool (qG x), .string (natS (qN x)), .string (natS (qD x))) (by rw [HBL.out]; rfl)
  obtain ⟨s0, s1, s2, s3, s4, s5, s6⟩ := T0.box 1 (.bool (qG y), .string (natS (qN y)), .string (natS (qD y))) (by rw [HBL.out]; rfl)
  unfold qv at *
  generalize x / y = z at *
  go_enter Tryd.func21, Tryd.ntmps21
  go_upto_region 3 with (first
    | (go_at_call 14; (with_reducible refine (KM1.out _).mono ?_); rintro ee w1 ⟨rfl, hb⟩; replace T0 := T0.step hb; clear hb; obtain ⟨p0, p1, p2, p3, p4, p5, p6⟩ := T0.box 0 (.bool (qG x), .string (natS (qN x)), .string (natS (qD x))) (by rw [HBL.out]; rfl); obtain ⟨s0, s1, s2, s3, s4, s5, s6⟩ := T0.box 1 (.bool (qG y), .string (natS (qN y)), .string (natS (qD y))) (by rw [HBL.out]; rfl))
    | (go_at_call 14; (with_reducible refine (KM2.out _).mono ?_); rintro ee w1 ⟨rfl, hb⟩; replace T0 := T0.step hb; clear hb; obtain ⟨p0, p1, p2, p3, p4, p5, p6⟩ := T0.box 0 (.bool (qG x), .string (natS (qN x)), .string (natS (qD x))) (by rw [HBL.out]; rfl); obtain ⟨s0, s1, s2, s3, s4, s5, s6⟩ := T0.box 1 (.bool (qG y), .string (natS (qN y)), .string (natS (qD y))) (by rw [HBL.out]; rfl)))
  clear p0 p1 p2 p3 p4 p5 p6 s0 s1 s2 s3 s4 s5 s6 KM1 KM2
  go_region_held3 (BR w bl) (first | assumption | exact BR.step (by assumption) (by assumption) | exact BR.put (by assumption) hbn _ _ _ | exact BR.drew (by assumption) | exact BR.drawn (by assumption) _)
    (first
      | (go_at_call 26; (with_reducible refine (KO1.out _).mono ?_); rintro ee wa ⟨A1, c1, A2, c2, rfl, hc1, hc2, hr1, hr2, hb1⟩)
      | (go_at_call 26; (with_reducible refine (KO2.out _).mono ?_); rintro ee wb ⟨A3, c3, A4, c4, rfl, hc3, hc4, hr3, hr4, hb2⟩; have hr1' := (hr1.below hb2).more hb2.size; have hr2' := (hr2.below hb2).more hb2.size; clear hr1 hr2)
      | (go_at_call 25; (refine (KF.out _ _ _ _ _ _ _ _ _ hr1' hr2' hr3 hr4).mono ?_); rintro ee wc ⟨A5, c5, A6, c6, rfl, hc5, hc6, hr5, hr6, hb3⟩; clear hr1' hr2' hr3 hr4)
      | (go_at_call 41; (refine (KL.out _ _ _ _ _ hc5 hc6 hr5 hr6).mono ?_); rintro ee wd ⟨rfl, hb4⟩; have HSV := Lib.hid (BR.step (w := w) (by assumption) hb4)))
  obtain ⟨q0, q1, q2, q3, q4, q5, q6⟩ := HSV.out.res (n := 2) hbn
  have hfin := below_put3 HSV.out.1 (show w.heap.size ≤ w.heap.size + 2 by omega)
  clear L0 L1 L2 L3 L4 L5 M1 M2 M3 M4 M5 M6 T0
  go_wp2_with fail
  refine bodyPost_ret (v := .tuple #[.agg #[.bool (rsG z), .string (rsN z), .string (rsD z)], .int .i64 (rsE z)]) (by simp [results, Tryd.results21, go_sem, q0, q1, q2, q3]) rfl ⟨rfl, hfin _ _ _⟩
set_option maxRecDepth 100000 in
set_option maxHeartbeats 1000000 in
theorem PAdd_c (x y : Rat) (w : World) (hx : qfits x) (hy : qfits y) :
    Calls Tryd.prog 8 #[qv x, qv y] w (LwPost (x + y) w) := by
  have KW : Hid (∀ w, Calls Tryd.prog 21 #[.agg #[.bool (qG x), .string (natS (qN x)), .string (natS (qD x))], .agg #[.bool (qG y), .string (natS (qN y)), .string (natS (qD y))], .func (.func 22) #[] #[]] w (LwPost (x + y) w)) := Lib.hid (fun w => Pwork_add x y w hx hy)
  clear hx hy
  try clear hy0
  obtain ⟨bl, hbl⟩ : ∃ bl : List C3, bl = [(.bool (qG x), .string (natS (qN x)), .string (natS (qD x))), (.bool (qG y), .string (natS (qN y)), .string (natS (qD y)))] := ⟨_, rfl⟩
  have hbn : bl.length = 2 := by rw [hbl]; rfl
  have T0 := BR.start2 w (.bool (qG x)) (.string (natS (qN x))) (.string (natS (qD x))) (.bool (qG y)) (.string (natS (qN y))) (.string (natS (qD y))) false (.string ⟨#[]⟩) (.string ⟨#[]⟩) 25 25 25
  rw [← hbl] at T0
  have L0 : ∀ U, BR w bl U → U.cell? ⟨w.heap.size, 0, none⟩ = some (.bool (qG x)) := fun U hU => (hU.box 0 (.bool (qG x), .string (natS (qN x)), .string (natS (qD x))) (by rw [hbl]; rfl)).2.1
  have L1 : ∀ U, BR w bl U → U.cell? ⟨w.heap.size, 1, none⟩ = some (.string (natS (qN x))) := fun U hU => (hU.box 0 (.bool (qG x), .string (natS (qN x)), .string (natS (qD x))) (by rw [hbl]; rfl)).2.2.1
  have L2 : ∀ U, BR w bl U → U.cell? ⟨w.heap.size, 2, none⟩ = some (.string (natS (qD x))) := fun U hU => (hU.box 0 (.bool (qG x), .string (natS (qN x)), .string (natS (qD x))) (by rw [hbl]; rfl)).2.2.2.1
  have L3 : ∀ U, BR w bl U → U.cell? ⟨w.heap.size + 1, 0, none⟩ = some (.bool (qG y)) := fun U hU => (hU.box 1 (.bool (qG y), .string (natS (qN y)), .string (natS (qD y))) (by rw [hbl]; rfl)).2.1
  have L4 : ∀ U, BR w bl U → U.cell? ⟨w.heap.size + 1, 1, none⟩ = some (.string (natS (qN y))) := fun U hU => (hU.box 1 (.bool (qG y), .string (natS (qN y)), .string (natS (qD y))) (by rw [hbl]; rfl)).2.2.1
  have L5 : ∀ U, BR w bl U → U.cell? ⟨w.heap.size + 1, 2, none⟩ = some (.string (natS (qD y))) := fun U hU => (hU.box 1 (.bool (qG y), .string (natS (qN y)), .string (natS (qD y))) (by rw [hbl]; rfl)).2.2.2.1
  have M1 := fun U (hU : BR w bl U) => (hU.res (n := 2) hbn).2.1
  have M2 := fun U (hU : BR w bl U) => (hU.res (n := 2) hbn).2.2.1
  have M3 := fun U (hU : BR w bl U) => (hU.res (n := 2) hbn).2.2.2.1
  have M4 := fun U (hU : BR w bl U) => (hU.res (n := 2) hbn).2.2.2.2.1
  have M5 := fun U (hU : BR w bl U) => (hU.res (n := 2) hbn).2.2.2.2.2.1
  have M6 := fun U (hU : BR w bl U) => (hU.res (n := 2) hbn).2.2.2.2.2.2
  have HBL := Lib.hid hbl
  clear hbl
  unfold qv
  generalize x + y = z at *
  go_enter Tryd.func8, Tryd.ntmps8
  go_wp2_with fail
  refine (KW.out _).mono ?_
  rintro ee w1 ⟨rfl, hb⟩
  replace T0 := T0.step hb
  obtain ⟨q0, q1, q2, q3, q4, q5, q6⟩ := T0.res (n := 2) hbn
  have hfin := below_put3 T0.1 (show w.heap.size ≤ w.heap.size + 2 by omega)
  clear hb L0 L1 L2 L3 L4 L5 M1 M2 M3 M4 M5 M6
  go_wp2_with fail
  refine bodyPost_ret (v := .tuple #[.agg #[.bool (rsG z), .string (rsN z), .string (rsD z)], .int .i64 (rsE z)]) (by simp [results, Tryd.results8, go_sem, q0, q1, q2, q3]) rfl ⟨rfl, hfin _ _ _⟩
set_option maxRecDepth 100000 in
set_option maxHeartbeats 1000000 in
theorem PSub_c (x y : Rat) (w : World) (hx : qfits x) (hy : qfits y) :
    Calls Tryd.prog 10 #[qv x, qv y] w (LwPost (x - y) w) := by
  have KW : Hid (∀ w, Calls Tryd.prog 21 #[.agg #[.bool (qG x), .string (natS (qN x)), .string (natS (qD x))], .agg #[.bool (qG y), .string (natS (qN y)), .string (natS (qD y))], .func (.func 24) #[] #[]] w (LwPost (x - y) w)) := Lib.hid (fun w => Pwork_sub x y w hx hy)
  clear hx hy
  try clear hy0
  obtain ⟨bl, hbl⟩ : ∃ bl : List C3, bl = [(.bool (qG x), .string (natS (qN x)), .string (natS (qD x))), (.bool (qG y), .string (natS (qN y)), .string (natS (qD y)))] := ⟨_, rfl⟩
  have hbn : bl.length = 2 := by rw [hbl]; rfl
  have T0 := BR.start2 w (.bool (qG x)) (.string (natS (qN x))) (.string (natS (qD x))) (.bool (qG y)) (.string (natS (qN y))) (.string (natS (qD y))) false (.string ⟨#[]⟩) (.string ⟨#[]⟩) 25 25 25
  rw [← hbl] at T0
  have L0 : ∀ U, BR w bl U → U.cell? ⟨w.heap.size, 0, none⟩ = some (.bool (qG x)) := fun U hU => (hU.box 0 (.bool (qG x), .string (natS (qN x)), .string (natS (qD x))) (by rw [hbl]; rfl)).2.1
  have L1 : ∀ U, BR w bl U → U.cell? ⟨w.heap.size, 1, none⟩ = some (.string (natS (qN x))) := fun U hU => (hU.box 0 (.bool (qG x), .string (natS (qN x)), .string (natS (qD x))) (by rw [hbl]; rfl)).2.2.1
  have L2 : ∀ U, BR w bl U → U.cell? ⟨w.heap.size, 2, none⟩ = some (.string (natS (qD x))) := fun U hU => (hU.box 0 (.bool (qG x), .string (natS (qN x)), .string (natS (qD x))) (by rw [hbl]; rfl)).2.2.2.1
  have L3 : ∀ U, BR w bl U → U.cell? ⟨w.heap.size + 1, 0, none⟩ = some (.bool (qG y)) := fun U hU => (hU.box 1 (.bool (qG y), .string (natS (qN y)), .string (natS (qD y))) (by rw [hbl]; rfl)).2.1
  have L4 : ∀ U, BR w bl U → U.cell? ⟨w.heap.size + 1, 1, none⟩ = some (.string (natS (qN y))) := fun U hU => (hU.box 1 (.bool (qG y), .string (natS (qN y)), .string (natS (qD y))) (by rw [hbl]; rfl)).2.2.1
  have L5 : ∀ U, BR w bl U → U.cell? ⟨w.heap.size + 1, 2, none⟩ = some (.string (natS (qD y))) := fun U hU => (hU.box 1 (.bool (qG y), .string (natS (qN y)), .string (natS (qD y))) (by rw [hbl]; rfl)).2.2.2.1
  have M1 := fun U (hU : BR w bl U) => (hU.res (n := 2) hbn).2.1
  have M2 := fun U (hU : BR w bl U) => (hU.res (n := 2) hbn).2.2.1
  have M3 := fun U (hU : BR w bl U) => (hU.res (n := 2) hbn).2.2.2.1
  have M4 := fun U (hU : BR w bl U) => (hU.res (n := 2) hbn).2.2.2.2.1
  have M5 := fun U (hU : BR w bl U) => (hU.res (n := 2) hbn).2.2.2.2.2.1
  have M6 := fun U (hU : BR w bl U) => (hU.res (n := 2) hbn).2.2.2.2.2.2
  have HBL := Lib.hid hbl
  clear hbl
  unfold qv
  generalize x - y = z at *
  go_enter Tryd.func10, Tryd.ntmps10
  go_wp2_with fail
  refine (KW.out _).mono ?_
  rintro ee w1 ⟨rfl, hb⟩
  replace T0 := T0.step hb
  obtain ⟨q0, q1, q2, q3, q4, q5, q6⟩ := T0.res (n := 2) hbn
  have hfin := below_put3 T0.1 (show w.heap.size ≤ w.heap.size + 2 by omega)
  clear hb L0 L1 L2 L3 L4 L5 M1 M2 M3 M4 M5 M6
  go_wp2_with fail
  refine bodyPost_ret (v := .tuple #[.agg #[.bool (rsG z), .string (rsN z), .string (rsD z)], .int .i64 (rsE z)]) (by simp [results, Tryd.results10, go_sem, q0, q1, q2, q3]) rfl ⟨rfl, hfin _ _ _⟩
set_option maxRecDepth 100000 in
set_option maxHeartbeats 1000000 in
theorem PMul_c (x y : Rat) (w : World) (hx : qfits x) (hy : qfits y) :
    Calls Tryd.prog 9 #[qv x, qv y] w (LwPost (x * y) w) := by
  have KW : Hid (∀ w, Calls Tryd.prog 21 #[.agg #[.bool (qG x), .string (natS (qN x)), .string (natS (qD x))], .agg #[.bool (qG y), .string (natS (qN y)), .string (natS (qD y))], .func (.func 23) #[] #[]] w (LwPost (x * y) w)) := Lib.hid (fun w => Pwork_mul x y w hx hy)
  clear hx hy
  try clear hy0
  obtain ⟨bl, hbl⟩ : ∃ bl : List C3, bl = [(.bool (qG x), .string (natS (qN x)), .string (natS (qD x))), (.bool (qG y), .string (natS (qN y)), .string (natS (qD y)))] := ⟨_, rfl⟩
  have hbn : bl.length = 2 := by rw [hbl]; rfl
  have T0 := BR.start2 w (.bool (qG x)) (.string (natS (qN x))) (.string (natS (qD x))) (.bool (qG y)) (.string (natS (qN y))) (.string (natS (qD y))) false (.string ⟨#[]⟩) (.string ⟨#[]⟩) 25 25 25
  rw [← hbl] at T0
  have L0 : ∀ U, BR w bl U → U.cell? ⟨w.heap.size, 0, none⟩ = some (.bool (qG x)) := fun U hU => (hU.box 0 (.bool (qG x), .string (natS (qN x)), .string (natS (qD x))) (by rw [hbl]; rfl)).2.1
  have L1 : ∀ U, BR w bl U → U.cell? ⟨w.heap.size, 1, none⟩ = some (.string (natS (qN x))) := fun U hU => (hU.box 0 (.bool (qG x), .string (natS (qN x)), .string (natS (qD x))) (by rw [hbl]; rfl)).2.2.1
  have L2 : ∀ U, BR w bl U → U.cell? ⟨w.heap.size, 2, none⟩ = some (.string (natS (qD x))) := fun U hU => (hU.box 0 (.bool (qG x), .string (natS (qN x)), .string (natS (qD x))) (by rw [hbl]; rfl)).2.2.2.1
  have L3 : ∀ U, BR w bl U → U.cell? ⟨w.heap.size + 1, 0, none⟩ = some (.bool (qG y)) := fun U hU => (hU.box 1 (.bool (qG y), .string (natS (qN y)), .string (natS (qD y))) (by rw [hbl]; rfl)).2.1
  have L4 : ∀ U, BR w bl U → U.cell? ⟨w.heap.size + 1, 1, none⟩ = some (.string (natS (qN y))) := fun U hU => (hU.box 1 (.bool (qG y), .string (natS (qN y)), .string (natS (qD y))) (by rw [hbl]; rfl)).2.2.1
  have L5 : ∀ U, BR w bl U → U.cell? ⟨w.heap.size + 1, 2, none⟩ = some (.string (natS (qD y))) := fun U hU => (hU.box 1 (.bool (qG y), .string (natS (qN y)), .string (natS (qD y))) (by rw [hbl]; rfl)).2.2.2.1
  have M1 := fun U (hU : BR w bl U) => (hU.res (n := 2) hbn).2.1
  have M2 := fun U (hU : BR w bl U) => (hU.res (n := 2) hbn).2.2.1
  have M3 := fun U (hU : BR w bl U) => (hU.res (n := 2) hbn).2.2.2.1
  have M4 := fun U (hU : BR w bl U) => (hU.res (n := 2) hbn).2.2.2.2.1
  have M5 := fun U (hU : BR w bl U) => (hU.res (n := 2) hbn).2.2.2.2.2.1
  have M6 := fun U (hU : BR w bl U) => (hU.res (n := 2) hbn).2.2.2.2.2.2
  have HBL := Lib.hid hbl
  clear hbl
  unfold qv
  generalize x * y = z at *
  go_enter Tryd.func9, Tryd.ntmps9
  go_wp2_with fail
  refine (KW.out _).mono ?_
  rintro ee w1 ⟨rfl, hb⟩
  replace T0 := T0.step hb
  obtain ⟨q0, q1, q2, q3, q4, q5, q6⟩ := T0.res (n := 2) hbn
  have hfin := below_put3 T0.1 (show w.heap.size ≤ w.heap.size + 2 by omega)
  clear hb L0 L1 L2 L3 L4 L5 M1 M2 M3 M4 M5 M6
  go_wp2_with fail
  refine bodyPost_ret (v := .tuple #[.agg #[.bool (rsG z), .string (rsN z), .string (rsD z)], .int .i64 (rsE z)]) (by simp [results, Tryd.results9, go_sem, q0, q1, q2, q3]) rfl ⟨rfl, hfin _ _ _⟩
set_option maxRecDepth 100000 in
set_option maxHeartbeats 1000000 in
theorem PQuo_c (x y : Rat) (w : World) (hx : qfits x) (hy : qfits y) (hy0 : qN y ≠ 0) :
    Calls Tryd.prog 11 #[qv x, qv y] w (LwPost (x / y) w) := by
  have KW : Hid (∀ w, Calls Tryd.prog 21 #[.agg #[.bool (qG x), .string (natS (qN x)), .string (natS (qD x))], .agg #[.bool (qG y), .string (natS (qN y)), .string (natS (qD y))], .func (.func 25) #[] #[]] w (LwPost (x / y) w)) := Lib.hid (fun w => Pwork_quo x y w hx hy hy0)
  have d1 := natS_full hy0
  have d2 := natS_full2 hy0
  clear hx hy
  try clear hy0
  obtain ⟨bl, hbl⟩ : ∃ bl : List C3, bl = [(.bool (qG x), .string (natS (qN x)), .string (natS (qD x))), (.bool (qG y), .string (natS (qN y)), .string (natS (qD y)))] := ⟨_, rfl⟩
  have hbn : bl.length = 2 := by rw [hbl]; rfl
  have T0 := BR.start2 w (.bool (qG x)) (.string (natS (qN x))) (.string (natS (qD x))) (.bool (qG y)) (.string (natS (qN y))) (.string (natS (qD y))) false (.string ⟨#[]⟩) (.string ⟨#[]⟩) 25 25 25
  rw [← hbl] at T0
  have L0 : ∀ U, BR w bl U → U.cell? ⟨w.heap.size, 0, none⟩ = some (.bool (qG x)) := fun U hU => (hU.box 0 (.bool (qG x), .string (natS (qN x)), .string (natS (qD x))) (by rw [hbl]; rfl)).2.1
  have L1 : ∀ U, BR w bl U → U.cell? ⟨w.heap.size, 1, none⟩ = some (.string (natS (qN x))) := fun U hU => (hU.box 0 (.bool (qG x), .string (natS (qN x)), .string (natS (qD x))) (by rw [hbl]; rfl)).2.2.1
  have L2 : ∀ U, BR w bl U → U.cell? ⟨w.heap.size, 2, none⟩ = some (.string (natS (qD x))) := fun U hU => (hU.box 0 (.bool (qG x), .string (natS (qN x)), .string (natS (qD x))) (by rw [hbl]; rfl)).2.2.2.1
  have L3 : ∀ U, BR w bl U → U.cell? ⟨w.heap.size + 1, 0, none⟩ = some (.bool (qG y)) := fun U hU => (hU.box 1 (.bool (qG y), .string (natS (qN y)), .string (natS (qD y))) (by rw [hbl]; rfl)).2.1
  have L4 : ∀ U, BR w bl U → U.cell? ⟨w.heap.size + 1, 1, none⟩ = some (.string (natS (qN y))) := fun U hU => (hU.box 1 (.bool (qG y), .string (natS (qN y)), .string (natS (qD y))) (by rw [hbl]; rfl)).2.2.1
  have L5 : ∀ U, BR w bl U → U.cell? ⟨w.heap.size + 1, 2, none⟩ = some (.string (natS (qD y))) := fun U hU => (hU.box 1 (.bool (qG y), .string (natS (qN y)), .string (natS (qD y))) (by rw [hbl]; rfl)).2.2.2.1
  have M1 := fun U (hU : BR w bl U) => (hU.res (n := 2) hbn).2.1
  have M2 := fun U (hU : BR w bl U) => (hU.res (n := 2) hbn).2.2.1
  have M3 := fun U (hU : BR w bl U) => (hU.res (n := 2) hbn).2.2.2.1
  have M4 := fun U (hU : BR w bl U) => (hU.res (n := 2) hbn).2.2.2.2.1
  have M5 := fun U (hU : BR w bl U) => (hU.res (n := 2) hbn).2.2.2.2.2.1
  have M6 := fun U (hU : BR w bl U) => (hU.res (n := 2) hbn).2.2.2.2.2.2
  have HBL := Lib.hid hbl
  clear hbl
  unfold qv
  generalize x / y = z at *
  go_enter Tryd.func11, Tryd.ntmps11
  go_wp2_with fail
  refine (KW.out _).mono ?_
  rintro ee w1 ⟨rfl, hb⟩
  replace T0 := T0.step hb
  obtain ⟨q0, q1, q2, q3, q4, q5, q6⟩ := T0.res (n := 2) hbn
  have hfin := below_put3 T0.1 (show w.heap.size ≤ w.heap.size + 2 by omega)
  clear hb L0 L1 L2 L3 L4 L5 M1 M2 M3 M4 M5 M6
  go_wp2_with fail
  refine bodyPost_ret (v := .tuple #[.agg #[.bool (rsG z), .string (rsN z), .string (rsD z)], .int .i64 (rsE z)]) (by simp [results, Tryd.results11, go_sem, q0, q1, q2, q3]) rfl ⟨rfl, hfin _ _ _⟩
theorem PMay_x (r : Rx) (q : Rat) (w : World) (h : r.Is q) : Calls Tryd.prog 14 #[.agg #[.bool r.g, .string r.s, .string r.t]] w fun e w' => e = .returned (.bool true) ∧ Below w.heap.size w w' := by
  obtain ⟨h1, rfl⟩ := h
  exact PMay_yes q w h1
set_option maxRecDepth 100000 in
set_option maxHeartbeats 1000000 in
theorem Pwork_no (x y : Rx) (f : Value) (w : World) (h : x.No ∨ y.No) :
    Calls Tryd.prog 21 #[.agg #[.bool x.g, .string x.s, .string x.t], .agg #[.bool y.g, .string y.s, .string y.t], f] w fun e w' => e = .returned (.tuple #[.agg #[.bool false, .string ⟨#[]⟩, .string ⟨#[]⟩], .int .i64 2]) ∧ Below w.heap.size w w' := by
  obtain ⟨bl, hbl⟩ : ∃ bl : List C3, bl = [(.bool x.g, .string x.s, .string x.t), (.bool y.g, .string y.s, .string y.t)] := ⟨_, rfl⟩
  have hbn : bl.length = 2 := by rw [hbl]; rfl
  have T0 := BR.start2 w (.bool x.g) (.string x.s) (.string x.t) (.bool y.g) (.string y.s) (.string y.t) false (.string ⟨#[]⟩) (.string ⟨#[]⟩) 25 25 25
  rw [← hbl] at T0
  have L0 : ∀ U, BR w bl U → U.cell? ⟨w.heap.size, 0, none⟩ = some (.bool x.g) := fun U hU => (hU.box 0 (.bool x.g, .string x.s, .string x.t) (by rw [hbl]; rfl)).2.1
  have L1 : ∀ U, BR w bl U → U.cell? ⟨w.heap.size, 1, none⟩ = some (.string x.s) := fun U hU => (hU.box 0 (.bool x.g, .string x.s, .string x.t) (by rw [hbl]; rfl)).2.2.1
  have L2 : ∀ U, BR w bl U → U.cell? ⟨w.heap.size, 2, none⟩ = some (.string x.t) := fun U hU => (hU.box 0 (.bool x.g, .string x.s, .string x.t) (by rw [hbl]; rfl)).2.2.2.1
  have L3 : ∀ U, BR w bl U → U.cell? ⟨w.heap.size + 1, 0, none⟩ = some (.bool y.g) := fun U hU => (hU.box 1 (.bool y.g, .string y.s, .string y.t) (by rw [hbl]; rfl)).2.1
  have L4 : ∀ U, BR w bl U → U.cell? ⟨w.heap.size + 1, 1, none⟩ = some (.string y.s) := fun U hU => (hU.box 1 (.bool y.g, .string y.s, .string y.t) (by rw [hbl]; rfl)).2.2.1
  have L5 : ∀ U, BR w bl U → U.cell? ⟨w.heap.size + 1, 2, none⟩ = some (.string y.t) := fun U hU => (hU.box 1 (.bool y.g, .string y.s, .string y.t) (by rw [hbl]; rfl)).2.2.2.1
  have M1 := fun U (hU : BR w bl U) => (hU.res (n := 2) hbn).2.1
  have M2 := fun U (hU : BR w bl U) => (hU.res (n := 2) hbn).2.2.1
  have M3 := fun U (hU : BR w bl U) => (hU.res (n := 2) hbn).2.2.2.1
  have M4 := fun U (hU : BR w bl U) => (hU.res (n := 2) hbn).2.2.2.2.1
  have M5 := fun U (hU : BR w bl U) => (hU.res (n := 2) hbn).2.2.2.2.2.1
  have M6 := fun U (hU : BR w bl U) => (hU.res (n := 2) hbn).2.2.2.2.2.2
  have HBL := Lib.hid hbl
  clear hbl
  clear L0 L1 L2 L3 L4 L5 M1 M2 M3 M4 M5 M6
  rcases x.cases_ with ⟨q, hq⟩ | hn
  · have hy : y.No := h.resolve_left fun c => c q hq
    have K1 := Lib.hid (fun w => PMay_x x q w hq)
    have K2 := Lib.hid (fun w => PMay_no y w hy)
    clear h hq hy
    go_enter Tryd.func21, Tryd.ntmps21
    go_wp2_with (first
      | (go_at_call 14; (with_reducible refine (K1.out _).mono ?_); rintro ee w1 ⟨rfl, hb⟩; replace T0 := T0.step hb; clear hb; obtain ⟨p0, p1, p2, p3, p4, p5, p6⟩ := T0.box 0 (.bool x.g, .string x.s, .string x.t) (by rw [HBL.out]; rfl); obtain ⟨s0, s1, s2, s3, s4, s5, s6⟩ := T0.box 1 (.bool y.g, .string y.s, .string y.t) (by rw [HBL.out]; rfl); obtain ⟨q0, q1, q2, q3, q4, q5, q6⟩ := T0.res (n := 2) hbn)
      | (go_at_call 14; (with_reducible refine (K2.out _).mono ?_); rintro ee w1 ⟨rfl, hb⟩; replace T0 := T0.step hb; clear hb; obtain ⟨q0, q1, q2, q3, q4, q5, q6⟩ := T0.res (n := 2) hbn))
    refine bodyPost_ret (v := .tuple #[.agg #[.bool false, .string ⟨#[]⟩, .string ⟨#[]⟩], .int .i64 2]) (by simp [results, Tryd.results21, go_sem, q0, q1, q2, q3]) rfl ⟨rfl, below_put3 T0.1 (show w.heap.size ≤ w.heap.size + 2 by omega) _ _ _⟩
  · have K1 := Lib.hid (fun w => PMay_no x w hn)
    clear h hn
    go_enter Tryd.func21, Tryd.ntmps21
    go_wp2_with (first
      | (go_at_call 14; (with_reducible refine (K1.out _).mono ?_); rintro ee w1 ⟨rfl, hb⟩; replace T0 := T0.step hb; clear hb; obtain ⟨p0, p1, p2, p3, p4, p5, p6⟩ := T0.box 0 (.bool x.g, .string x.s, .string x.t) (by rw [HBL.out]; rfl); obtain ⟨s0, s1, s2, s3, s4, s5, s6⟩ := T0.box 1 (.bool y.g, .string y.s, .string y.t) (by rw [HBL.out]; rfl); obtain ⟨q0, q1, q2, q3, q4, q5, q6⟩ := T0.res (n := 2) hbn))
    refine bodyPost_ret (v := .tuple #[.agg #[.bool false, .string ⟨#[]⟩, .string ⟨#[]⟩], .int .i64 2]) (by simp [results, Tryd.results21, go_sem, q0, q1, q2, q3]) rfl ⟨rfl, below_put3 T0.1 (show w.heap.size ≤ w.heap.size + 2 by omega) _ _ _⟩
set_option maxRecDepth 100000 in
set_option maxHeartbeats 1000000 in
theorem PAdd_no (x y : Rx) (w : World) (h : x.No ∨ y.No) :
    Calls Tryd.prog 8 #[.agg #[.bool x.g, .string x.s, .string x.t], .agg #[.bool y.g, .string y.s, .string y.t]] w fun e w' => e = .returned (.tuple #[.agg #[.bool false, .string ⟨#[]⟩, .string ⟨#[]⟩], .int .i64 2]) ∧ Below w.heap.size w w' := by
  have KW := Lib.hid (fun w => Pwork_no x y (.func (.func 22) #[] #[]) w h)
  clear h
  obtain ⟨bl, hbl⟩ : ∃ bl : List C3, bl = [(.bool x.g, .string x.s, .string x.t), (.bool y.g, .string y.s, .string y.t)] := ⟨_, rfl⟩
  have hbn : bl.length = 2 := by rw [hbl]; rfl
  have T0 := BR.start2 w (.bool x.g) (.string x.s) (.string x.t) (.bool y.g) (.string y.s) (.string y.t) false (.string ⟨#[]⟩) (.string ⟨#[]⟩) 25 25 25
  rw [← hbl] at T0
  have L0 : ∀ U, BR w bl U → U.cell? ⟨w.heap.size, 0, none⟩ = some (.bool x.g) := fun U hU => (hU.box 0 (.bool x.g, .string x.s, .string x.t) (by rw [hbl]; rfl)).2.1
  have L1 : ∀ U, BR w bl U → U.cell? ⟨w.heap.size, 1, none⟩ = some (.string x.s) := fun U hU => (hU.box 0 (.bool x.g, .string x.s, .string x.t) (by rw [hbl]; rfl)).2.2.1
  have L2 : ∀ U, BR w bl U → U.cell? ⟨w.heap.size, 2, none⟩ = some (.string x.t) := fun U hU => (hU.box 0 (.bool x.g, .string x.s, .string x.t) (by rw [hbl]; rfl)).2.2.2.1
  have L3 : ∀ U, BR w bl U → U.cell? ⟨w.heap.size + 1, 0, none⟩ = some (.bool y.g) := fun U hU => (hU.box 1 (.bool y.g, .string y.s, .string y.t) (by rw [hbl]; rfl)).2.1
  have L4 : ∀ U, BR w bl U → U.cell? ⟨w.heap.size + 1, 1, none⟩ = some (.string y.s) := fun U hU => (hU.box 1 (.bool y.g, .string y.s, .string y.t) (by rw [hbl]; rfl)).2.2.1
  have L5 : ∀ U, BR w bl U → U.cell? ⟨w.heap.size + 1, 2, none⟩ = some (.string y.t) := fun U hU => (hU.box 1 (.bool y.g, .string y.s, .string y.t) (by rw [hbl]; rfl)).2.2.2.1
  have M1 := fun U (hU : BR w bl U) => (hU.res (n := 2) hbn).2.1
  have M2 := fun U (hU : BR w bl U) => (hU.res (n := 2) hbn).2.2.1
  have M3 := fun U (hU : BR w bl U) => (hU.res (n := 2) hbn).2.2.2.1
  have M4 := fun U (hU : BR w bl U) => (hU.res (n := 2) hbn).2.2.2.2.1
  have M5 := fun U (hU : BR w bl U) => (hU.res (n := 2) hbn).2.2.2.2.2.1
  have M6 := fun U (hU : BR w bl U) => (hU.res (n := 2) hbn).2.2.2.2.2.2
  have HBL := Lib.hid hbl
  clear hbl
  go_enter Tryd.func8, Tryd.ntmps8
  go_wp2_with fail
  refine (KW.out _).mono ?_
  rintro ee w1 ⟨rfl, hb⟩
  replace T0 := T0.step hb
  obtain ⟨q0, q1, q2, q3, q4, q5, q6⟩ := T0.res (n := 2) hbn
  have hfin := below_put3 T0.1 (show w.heap.size ≤ w.heap.size + 2 by omega)
  clear hb L0 L1 L2 L3 L4 L5 M1 M2 M3 M4 M5 M6
  go_wp2_with fail
  refine bodyPost_ret (v := .tuple #[.agg #[.bool false, .string ⟨#[]⟩, .string ⟨#[]⟩], .int .i64 2]) (by simp [results, Tryd.results8, go_sem, q0, q1, q2, q3]) rfl ⟨rfl, hfin _ _ _⟩
set_option maxRecDepth 100000 in
set_option maxHeartbeats 1000000 in
theorem PSub_no (x y : Rx) (w : World) (h : x.No ∨ y.No) :
    Calls Tryd.prog 10 #[.agg #[.bool x.g, .string x.s, .string x.t], .agg #[.bool y.g, .string y.s, .string y.t]] w fun e w' => e = .returned (.tuple #[.agg #[.bool false, .string ⟨#[]⟩, .string ⟨#[]⟩], .int .i64 2]) ∧ Below w.heap.size w w' := by
  have KW := Lib.hid (fun w => Pwork_no x y (.func (.func 24) #[] #[]) w h)
  clear h
  obtain ⟨bl, hbl⟩ : ∃ bl : List C3, bl = [(.bool x.g, .string x.s, .string x.t), (.bool y.g, .string y.s, .string y.t)] := ⟨_, rfl⟩
  have hbn : bl.length = 2 := by rw [hbl]; rfl
  have T0 := BR.start2 w (.bool x.g) (.string x.s) (.string x.t) (.bool y.g) (.string y.s) (.string y.t) false (.string ⟨#[]⟩) (.string ⟨#[]⟩) 25 25 25
  rw [← hbl] at T0
  have L0 : ∀ U, BR w bl U → U.cell? ⟨w.heap.size, 0, none⟩ = some (.bool x.g) := fun U hU => (hU.box 0 (.bool x.g, .string x.s, .string x.t) (by rw [hbl]; rfl)).2.1
  have L1 : ∀ U, BR w bl U → U.cell? ⟨w.heap.size, 1, none⟩ = some (.string x.s) := fun U hU => (hU.box 0 (.bool x.g, .string x.s, .string x.t) (by rw [hbl]; rfl)).2.2.1
  have L2 : ∀ U, BR w bl U → U.cell? ⟨w.heap.size, 2, none⟩ = some (.string x.t) := fun U hU => (hU.box 0 (.bool x.g, .string x.s, .string x.t) (by rw [hbl]; rfl)).2.2.2.1
  have L3 : ∀ U, BR w bl U → U.cell? ⟨w.heap.size + 1, 0, none⟩ = some (.bool y.g) := fun U hU => (hU.box 1 (.bool y.g, .string y.s, .string y.t) (by rw [hbl]; rfl)).2.1
  have L4 : ∀ U, BR w bl U → U.cell? ⟨w.heap.size + 1, 1, none⟩ = some (.string y.s) := fun U hU => (hU.box 1 (.bool y.g, .string y.s, .string y.t) (by rw [hbl]; rfl)).2.2.1
  have L5 : ∀ U, BR w bl U → U.cell? ⟨w.heap.size + 1, 2, none⟩ = some (.string y.t) := fun U hU => (hU.box 1 (.bool y.g, .string y.s, .string y.t) (by rw [hbl]; rfl)).2.2.2.1
  have M1 := fun U (hU : BR w bl U) => (hU.res (n := 2) hbn).2.1
  have M2 := fun U (hU : BR w bl U) => (hU.res (n := 2) hbn).2.2.1
  have M3 := fun U (hU : BR w bl U) => (hU.res (n := 2) hbn).2.2.2.1
  have M4 := fun U (hU : BR w bl U) => (hU.res (n := 2) hbn).2.2.2.2.1
  have M5 := fun U (hU : BR w bl U) => (hU.res (n := 2) hbn).2.2.2.2.2.1
  have M6 := fun U (hU : BR w bl U) => (hU.res (n := 2) hbn).2.2.2.2.2.2
  have HBL := Lib.hid hbl
  clear hbl
  go_enter Tryd.func10, Tryd.ntmps10
  go_wp2_with fail
  refine (KW.out _).mono ?_
  rintro ee w1 ⟨rfl, hb⟩
  replace T0 := T0.step hb
  obtain ⟨q0, q1, q2, q3, q4, q5, q6⟩ := T0.res (n := 2) hbn
  have hfin := below_put3 T0.1 (show w.heap.size ≤ w.heap.size + 2 by omega)
  clear hb L0 L1 L2 L3 L4 L5 M1 M2 M3 M4 M5 M6
  go_wp2_with fail
  refine bodyPost_ret (v := .tuple #[.agg #[.bool false, .string ⟨#[]⟩, .string ⟨#[]⟩], .int .i64 2]) (by simp [results, Tryd.results10, go_sem, q0, q1, q2, q3]) rfl ⟨rfl, hfin _ _ _⟩
set_option maxRecDepth 100000 in
set_option maxHeartbeats 1000000 in
theorem PMul_no (x y : Rx) (w : World) (h : x.No ∨ y.No) :
    Calls Tryd.prog 9 #[.agg #[.bool x.g, .string x.s, .string x.t], .agg #[.bool y.g, .string y.s, .string y.t]] w fun e w' => e = .returned (.tuple #[.agg #[.bool false, .string ⟨#[]⟩, .string ⟨#[]⟩], .int .i64 2]) ∧ Below w.heap.size w w' := by
  have KW := Lib.hid (fun w => Pwork_no x y (.func (.func 23) #[] #[]) w h)
  clear h
  obtain ⟨bl, hbl⟩ : ∃ bl : List C3, bl = [(.bool x.g, .string x.s, .string x.t), (.bool y.g, .string y.s, .string y.t)] := ⟨_, rfl⟩
  have hbn : bl.length = 2 := by rw [hbl]; rfl
  have T0 := BR.start2 w (.bool x.g) (.string x.s) (.string x.t) (.bool y.g) (.string y.s) (.string y.t) false (.string ⟨#[]⟩) (.string ⟨#[]⟩) 25 25 25
  rw [← hbl] at T0
  have L0 : ∀ U, BR w bl U → U.cell? ⟨w.heap.size, 0, none⟩ = some (.bool x.g) := fun U hU => (hU.box 0 (.bool x.g, .string x.s, .string x.t) (by rw [hbl]; rfl)).2.1
  have L1 : ∀ U, BR w bl U → U.cell? ⟨w.heap.size, 1, none⟩ = some (.string x.s) := fun U hU => (hU.box 0 (.bool x.g, .string x.s, .string x.t) (by rw [hbl]; rfl)).2.2.1
  have L2 : ∀ U, BR w bl U → U.cell? ⟨w.heap.size, 2, none⟩ = some (.string x.t) := fun U hU => (hU.box 0 (.bool x.g, .string x.s, .string x.t) (by rw [hbl]; rfl)).2.2.2.1
  have L3 : ∀ U, BR w bl U → U.cell? ⟨w.heap.size + 1, 0, none⟩ = some (.bool y.g) := fun U hU => (hU.box 1 (.bool y.g, .string y.s, .string y.t) (by rw [hbl]; rfl)).2.1
  have L4 : ∀ U, BR w bl U → U.cell? ⟨w.heap.size + 1, 1, none⟩ = some (.string y.s) := fun U hU => (hU.box 1 (.bool y.g, .string y.s, .string y.t) (by rw [hbl]; rfl)).2.2.1
  have L5 : ∀ U, BR w bl U → U.cell? ⟨w.heap.size + 1, 2, none⟩ = some (.string y.t) := fun U hU => (hU.box 1 (.bool y.g, .string y.s, .string y.t) (by rw [hbl]; rfl)).2.2.2.1
  have M1 := fun U (hU : BR w bl U) => (hU.res (n := 2) hbn).2.1
  have M2 := fun U (hU : BR w bl U) => (hU.res (n := 2) hbn).2.2.1
  have M3 := fun U (hU : BR w bl U) => (hU.res (n := 2) hbn).2.2.2.1
  have M4 := fun U (hU : BR w bl U) => (hU.res (n := 2) hbn).2.2.2.2.1
  have M5 := fun U (hU : BR w bl U) => (hU.res (n := 2) hbn).2.2.2.2.2.1
  have M6 := fun U (hU : BR w bl U) => (hU.res (n := 2) hbn).2.2.2.2.2.2
  have HBL := Lib.hid hbl
  clear hbl
  go_enter Tryd.func9, Tryd.ntmps9
  go_wp2_with fail
  refine (KW.out _).mono ?_
  rintro ee w1 ⟨rfl, hb⟩
  replace T0 := T0.step hb
  obtain ⟨q0, q1, q2, q3, q4, q5, q6⟩ := T0.res (n := 2) hbn
  have hfin := below_put3 T0.1 (show w.heap.size ≤ w.heap.size + 2 by omega)
  clear hb L0 L1 L2 L3 L4 L5 M1 M2 M3 M4 M5 M6
  go_wp2_with fail
  refine bodyPost_ret (v := .tuple #[.agg #[.bool false, .string ⟨#[]⟩, .string ⟨#[]⟩], .int .i64 2]) (by simp [results, Tryd.results9, go_sem, q0, q1, q2, q3]) rfl ⟨rfl, hfin _ _ _⟩
set_option maxRecDepth 100000 in
set_option maxHeartbeats 1000000 in
theorem PQuo_no (x y : Rx) (w : World) (h : x.No ∨ y.No) (d1 : ¬ y.s.toList = []) (d2 : y.s.toList.isEmpty = false) :
    Calls Tryd.prog 11 #[.agg #[.bool x.g, .string x.s, .string x.t], .agg #[.bool y.g, .string y.s, .string y.t]] w fun e w' => e = .returned (.tuple #[.agg #[.bool false, .string ⟨#[]⟩, .string ⟨#[]⟩], .int .i64 2]) ∧ Below w.heap.size w w' := by
  have KW := Lib.hid (fun w => Pwork_no x y (.func (.func 25) #[] #[]) w h)
  clear h
  obtain ⟨bl, hbl⟩ : ∃ bl : List C3, bl = [(.bool x.g, .string x.s, .string x.t), (.bool y.g, .string y.s, .string y.t)] := ⟨_, rfl⟩
  have hbn : bl.length = 2 := by rw [hbl]; rfl
  have T0 := BR.start2 w (.bool x.g) (.string x.s) (.string x.t) (.bool y.g) (.string y.s) (.string y.t) false (.string ⟨#[]⟩) (.string ⟨#[]⟩) 25 25 25
  rw [← hbl] at T0
  have L0 : ∀ U, BR w bl U → U.cell? ⟨w.heap.size, 0, none⟩ = some (.bool x.g) := fun U hU => (hU.box 0 (.bool x.g, .string x.s, .string x.t) (by rw [hbl]; rfl)).2.1
  have L1 : ∀ U, BR w bl U → U.cell? ⟨w.heap.size, 1, none⟩ = some (.string x.s) := fun U hU => (hU.box 0 (.bool x.g, .string x.s, .string x.t) (by rw [hbl]; rfl)).2.2.1
  have L2 : ∀ U, BR w bl U → U.cell? ⟨w.heap.size, 2, none⟩ = some (.string x.t) := fun U hU => (hU.box 0 (.bool x.g, .string x.s, .string x.t) (by rw [hbl]; rfl)).2.2.2.1
  have L3 : ∀ U, BR w bl U → U.cell? ⟨w.heap.size + 1, 0, none⟩ = some (.bool y.g) := fun U hU => (hU.box 1 (.bool y.g, .string y.s, .string y.t) (by rw [hbl]; rfl)).2.1
  have L4 : ∀ U, BR w bl U → U.cell? ⟨w.heap.size + 1, 1, none⟩ = some (.string y.s) := fun U hU => (hU.box 1 (.bool y.g, .string y.s, .string y.t) (by rw [hbl]; rfl)).2.2.1
  have L5 : ∀ U, BR w bl U → U.cell? ⟨w.heap.size + 1, 2, none⟩ = some (.string y.t) := fun U hU => (hU.box 1 (.bool y.g, .string y.s, .string y.t) (by rw [hbl]; rfl)).2.2.2.1
  have M1 := fun U (hU : BR w bl U) => (hU.res (n := 2) hbn).2.1
  have M2 := fun U (hU : BR w bl U) => (hU.res (n := 2) hbn).2.2.1
  have M3 := fun U (hU : BR w bl U) => (hU.res (n := 2) hbn).2.2.2.1
  have M4 := fun U (hU : BR w bl U) => (hU.res (n := 2) hbn).2.2.2.2.1
  have M5 := fun U (hU : BR w bl U) => (hU.res (n := 2) hbn).2.2.2.2.2.1
  have M6 := fun U (hU : BR w bl U) => (hU.res (n := 2) hbn).2.2.2.2.2.2
  have HBL := Lib.hid hbl
  clear hbl
  go_enter Tryd.func11, Tryd.ntmps11
  go_wp2_with fail
  refine (KW.out _).mono ?_
  rintro ee w1 ⟨rfl, hb⟩
  replace T0 := T0.step hb
  obtain ⟨q0, q1, q2, q3, q4, q5, q6⟩ := T0.res (n := 2) hbn
  have hfin := below_put3 T0.1 (show w.heap.size ≤ w.heap.size + 2 by omega)
  clear hb L0 L1 L2 L3 L4 L5 M1 M2 M3 M4 M5 M6
  go_wp2_with fail
  refine bodyPost_ret (v := .tuple #[.agg #[.bool false, .string ⟨#[]⟩, .string ⟨#[]⟩], .int .i64 2]) (by simp [results, Tryd.results11, go_sem, q0, q1, q2, q3]) rfl ⟨rfl, hfin _ _ _⟩
set_option maxRecDepth 100000 in
theorem PQuo_nul (x y : Rx) (w : World) (h : y.s = ⟨#[]⟩) :
    Calls Tryd.prog 11 #[.agg #[.bool x.g, .string x.s, .string x.t], .agg #[.bool y.g, .string y.s, .string y.t]] w fun e w' => e = .returned (.tuple #[.agg #[.bool false, .string ⟨#[]⟩, .string ⟨#[]⟩], .int .i64 2]) ∧ Below w.heap.size w w' := by
  obtain ⟨bl, hbl⟩ : ∃ bl : List C3, bl = [(.bool x.g, .string x.s, .string x.t), (.bool y.g, .string y.s, .string y.t)] := ⟨_, rfl⟩
  have hbn : bl.length = 2 := by rw [hbl]; rfl
  have T0 := BR.start2 w (.bool x.g) (.string x.s) (.string x.t) (.bool y.g) (.string y.s) (.string y.t) false (.string ⟨#[]⟩) (.string ⟨#[]⟩) 25 25 25
  rw [← hbl] at T0
  have L0 : ∀ U, BR w bl U → U.cell? ⟨w.heap.size, 0, none⟩ = some (.bool x.g) := fun U hU => (hU.box 0 (.bool x.g, .string x.s, .string x.t) (by rw [hbl]; rfl)).2.1
  have L1 : ∀ U, BR w bl U → U.cell? ⟨w.heap.size, 1, none⟩ = some (.string x.s) := fun U hU => (hU.box 0 (.bool x.g, .string x.s, .string x.t) (by rw [hbl]; rfl)).2.2.1
  have L2 : ∀ U, BR w bl U → U.cell? ⟨w.heap.size, 2, none⟩ = some (.string x.t) := fun U hU => (hU.box 0 (.bool x.g, .string x.s, .string x.t) (by rw [hbl]; rfl)).2.2.2.1
  have L3 : ∀ U, BR w bl U → U.cell? ⟨w.heap.size + 1, 0, none⟩ = some (.bool y.g) := fun U hU => (hU.box 1 (.bool y.g, .string y.s, .string y.t) (by rw [hbl]; rfl)).2.1
  have L4 : ∀ U, BR w bl U → U.cell? ⟨w.heap.size + 1, 1, none⟩ = some (.string y.s) := fun U hU => (hU.box 1 (.bool y.g, .string y.s, .string y.t) (by rw [hbl]; rfl)).2.2.1
  have L5 : ∀ U, BR w bl U → U.cell? ⟨w.heap.size + 1, 2, none⟩ = some (.string y.t) := fun U hU => (hU.box 1 (.bool y.g, .string y.s, .string y.t) (by rw [hbl]; rfl)).2.2.2.1
  have M1 := fun U (hU : BR w bl U) => (hU.res (n := 2) hbn).2.1
  have M2 := fun U (hU : BR w bl U) => (hU.res (n := 2) hbn).2.2.1
  have M3 := fun U (hU : BR w bl U) => (hU.res (n := 2) hbn).2.2.2.1
  have M4 := fun U (hU : BR w bl U) => (hU.res (n := 2) hbn).2.2.2.2.1
  have M5 := fun U (hU : BR w bl U) => (hU.res (n := 2) hbn).2.2.2.2.2.1
  have M6 := fun U (hU : BR w bl U) => (hU.res (n := 2) hbn).2.2.2.2.2.2
  have HBL := Lib.hid hbl
  clear hbl
  have d1 : y.s.toList = [] := by rw [h, ba_toList]
  clear L0 L1 L2 L3 L4 L5 M1 M2 M3 M4 M5 M6 h
  go_enter Tryd.func11, Tryd.ntmps11
  go_wp2_with fail
  refine bodyPost_ret (v := .tuple #[.agg #[.bool false, .string ⟨#[]⟩, .string ⟨#[]⟩], .int .i64 2]) (by simp [results, Tryd.results11, go_sem]) rfl ⟨rfl, ?_⟩
  repeat (refine Below.setCell ?_ (by simp; omega) _)
  first | exact T0.1 | exact (((Below.refl _ _).alloc (Nat.le_refl _) _).alloc (by simp) _).alloc (by simp; omega) _
end Go.Proofs.YtajcapliokblfaaDoor
set_option linter.unusedSimpArgs false
set_option linter.unusedVariables false
namespace Go.Proofs.YtajcapliokblfaaDoor
open Go Go.RowKit Nt Go.Lib

set_option maxRecDepth 100000 in
set_option maxHeartbeats 1000000 in
theorem PSmall_nil (w : World) : Calls Tryd.prog 56 #[.string ⟨#[]⟩] w fun e w' => e = .returned (.int .i64 0) ∧ Below w.heap.size w w' := by
  have hn := fun ty => run_next_end (P := Tryd.prog) w ⟨#[]⟩ 0 ty (by decide)
  go_enter Tryd.func56, Tryd.ntmps56
  go_wp2
  refine wp_loop_rounds 1 ?_
  rw [rounds_succ]
  go_wp2
  go_ret
  exact ⟨rfl, (Below.refl _ _).alloc (Nat.le_refl _) _⟩
@[reducible] def s01 : ByteArray := ⟨#[48, 49]⟩
/-- As value goes over the digits 01: its boxes, and the iterator in block k. -/
def VK (w : World) (k pos : Nat) (W : World) : Prop := Below w.heap.size w W ∧ Blk W w.heap.size 60 #[.bool false, .bool false, .string s01, .string ⟨#[]⟩, .int .i64 1] ∧ (∃ b y z, Bx3 W (w.heap.size + 1) (.bool b, y, z)) ∧ w.heap.size + 1 < k ∧ W.heap[k]? = some (.stringIter s01 pos)
theorem VK.step {w : World} {k pos : Nat} {W W' : World} (h : VK w k pos W) (hb : Below W.heap.size W W') : VK w k pos W' := by
  obtain ⟨h1, h2, ⟨b, y, z, h3⟩, h4, h5⟩ := h
  exact ⟨below_chain h1 hb, h2.below hb h2.lt, ⟨b, y, z, h3.step hb⟩, h4, (hb.block k (Array.getElem?_eq_some_iff.1 h5).1).trans h5⟩
theorem VK.drawn {w : World} {k pos : Nat} {W : World} (h : VK w k pos W) (n : Nat) : VK w k pos (W.drewN n) := h.step (below_drewN (Below.refl _ _) n)
theorem VK.drew {w : World} {k pos : Nat} {W : World} (h : VK w k pos W) : VK w k pos W.drew := h.step (Below.refl _ _).drew
theorem VK.next {w : World} {k pos : Nat} {W : World} (h : VK w k pos W) (q : Nat) : VK w k q (W.iterAt k s01 q) := by
  obtain ⟨h1, h2, ⟨b, y, z, T, h3⟩, h4, h5⟩ := h
  refine ⟨below_iterAt h1 (by omega) _ _, (iterAt_other _ _ _ _ _ (by omega)).trans h2, ⟨b, y, z, T, (iterAt_other _ _ _ _ _ (by omega)).trans h3⟩, h4, iterAt_heap _ _ _ _ _ h5⟩
theorem VK.put {w : World} {k pos : Nat} {W : World} (h : VK w k pos W) (x : Bool) (y z : Value) : VK w k pos (((W.setCell ⟨w.heap.size + 1, 0, none⟩ (.bool x)).setCell ⟨w.heap.size + 1, 1, none⟩ y).setCell ⟨w.heap.size + 1, 2, none⟩ z) := by
  obtain ⟨h1, h2, ⟨b, y', z', h3⟩, h4, h5⟩ := h
  refine ⟨below_put3 h1 (by omega) _ _ _, ((h2.far (p := ⟨w.heap.size + 1, 0, none⟩) (by simp) _).far (p := ⟨w.heap.size + 1, 1, none⟩) (by simp) _).far (p := ⟨w.heap.size + 1, 2, none⟩) (by simp) _, ⟨_, _, _, h3.put _ _ _⟩, h4, ?_⟩
  have : ∀ (U : World) (i : Nat) (v : Value), (U.setCell ⟨w.heap.size + 1, i, none⟩ v).heap[k]? = U.heap[k]? := fun U i v => by
    simp [World.setCell, Array.getElem?_modify]; omega
  rw [this, this, this]; exact h5
theorem VK.cells {w : World} {k pos : Nat} {W : World} (h : VK w k pos W) : w.heap.size + 1 < W.heap.size ∧ W.cell? ⟨w.heap.size, 0, none⟩ = some (.bool false) ∧ W.cell? ⟨w.heap.size, 1, none⟩ = some (.bool false) ∧ W.cell? ⟨w.heap.size, 2, none⟩ = some (.string s01) ∧ W.cell? ⟨w.heap.size, 4, none⟩ = some (.int .i64 1) := by
  obtain ⟨h1, h2, ⟨b, y, z, h3⟩, h4, h5⟩ := h
  exact ⟨h3.facts.1, by rw [h2.cell]; rfl, by rw [h2.cell]; rfl, by rw [h2.cell]; rfl, by rw [h2.cell]; rfl⟩
theorem VK.res {w : World} {k pos : Nat} {W : World} (h : VK w k pos W) : w.heap.size + 1 < W.heap.size ∧ W.cell? ⟨w.heap.size + 1, 0, none⟩ = some (celAt W (w.heap.size + 1) 0) ∧ W.cell? ⟨w.heap.size + 1, 1, none⟩ = some (celAt W (w.heap.size + 1) 1) ∧ W.cell? ⟨w.heap.size + 1, 2, none⟩ = some (celAt W (w.heap.size + 1) 2) ∧ W.frozen? ⟨w.heap.size + 1, 0, none⟩ = false ∧ W.frozen? ⟨w.heap.size + 1, 1, none⟩ = false ∧ W.frozen? ⟨w.heap.size + 1, 2, none⟩ = false := by
  obtain ⟨h1, h2, ⟨b, y, z, hc⟩, h4, h5⟩ := h
  obtain ⟨r0, r1, r2, r3, r4, r5, r6⟩ := hc.facts
  exact ⟨r0, celAt_eq r1, celAt_eq r2, celAt_eq r3, r4, r5, r6⟩
/-- The boxes alone. -/
def VB (w : World) (W : World) : Prop := Below w.heap.size w W ∧ Blk W w.heap.size 60 #[.bool false, .bool false, .string s01, .string ⟨#[]⟩, .int .i64 1] ∧ ∃ b y z, Bx3 W (w.heap.size + 1) (.bool b, y, z)
theorem VB.start (w : World) (T : TypeId) : VB w ((w.alloc (.cells #[.bool false, .bool false, .string s01, .string ⟨#[]⟩, .int .i64 1] 60)).alloc (.cells #[.bool false, .string ⟨#[]⟩, .string ⟨#[]⟩] T)) := by
  refine ⟨((Below.refl _ _).alloc (Nat.le_refl _) _).alloc (by simp) _, (Blk.new w _ _).alloc _, false, .string ⟨#[]⟩, .string ⟨#[]⟩, ?_⟩
  have := Bx3.new (w.alloc (.cells #[.bool false, .bool false, .string s01, .string ⟨#[]⟩, .int .i64 1] 60)) (.bool false) (.string ⟨#[]⟩) (.string ⟨#[]⟩) T
  simpa using this
theorem VB.step {w W W' : World} (h : VB w W) (hb : Below W.heap.size W W') : VB w W' := by
  obtain ⟨h1, h2, b, y, z, h3⟩ := h
  exact ⟨below_chain h1 hb, h2.below hb h2.lt, b, y, z, h3.step hb⟩
theorem VB.iter {w W : World} (h : VB w W) : VK w W.heap.size 0 (W.iter s01 0) := by
  obtain ⟨h1, h2, b, y, z, h3⟩ := h.step (W' := W.iter s01 0) ((Below.refl _ _).alloc (Nat.le_refl _) _)
  obtain ⟨_, _, b', y', z', h3'⟩ := h
  exact ⟨h1, h2, ⟨b, y, z, h3⟩, h3'.facts.1, World.iter_heap W s01 0⟩
theorem VB.cells {w W : World} (h : VB w W) : w.heap.size + 1 < W.heap.size ∧ W.cell? ⟨w.heap.size, 0, none⟩ = some (.bool false) ∧ W.cell? ⟨w.heap.size, 1, none⟩ = some (.bool false) ∧ W.cell? ⟨w.heap.size, 2, none⟩ = some (.string s01) ∧ W.cell? ⟨w.heap.size, 4, none⟩ = some (.int .i64 1) := by
  obtain ⟨h1, h2, b, y, z, h3⟩ := h
  exact ⟨h3.facts.1, by rw [h2.cell]; rfl, by rw [h2.cell]; rfl, by rw [h2.cell]; rfl, by rw [h2.cell]; rfl⟩
theorem put_01 (W' : World) : Calls Tryd.prog 54 #[.slice none 0 0, .int .u64 10, .int .u64 0] W' (NumPost 0 W') := by
  have h := Put_c none 0 0 10 0 W'.heap.size W' (by omega) (by omega) (by rw [nd_zero]; omega) (by rw [nd_zero]; exact Row.none_) (Nat.le_refl _)
  rw [nd_zero] at h
  exact h
theorem put_02 (A : Option Addr) (c : Nat) (W' : World) : Calls Tryd.prog 54 #[.slice A 0 c, .int .u64 10, .int .u64 1] W' (NumPost 1 W') := by
  have h := Put_c A c 0 10 1 W'.heap.size W' (by omega) (by omega) (by rw [nd_zero]; omega) (by rw [nd_zero]; exact Row.none_) (Nat.le_refl _)
  rw [nd_zero] at h
  exact h
theorem fits_10 : fits 10 := by unfold fits; rw [nd_unique (b := 256) (n := 10) (k := 0) (by omega) (by decide) (by decide)]; omega
theorem nd_1 : nd W 1 = 1 := nd_unique (b := W) (n := 1) (k := 0) W2 (by decide) (by rw [W_eq]; decide)
theorem nd_10 : nd W 10 = 1 := nd_unique (b := W) (n := 10) (k := 0) W2 (by decide) (by rw [W_eq]; decide)
theorem mul_11 (A A' : Option Addr) (c c' : Nat) (W' : World) (r1 : Row W' W'.heap.size A 1 (nd W 1)) (r2 : Row W' W'.heap.size A' 1 (nd W 1)) : Calls Tryd.prog 42 #[.slice A (nd W 1) c, .slice A' (nd W 1) c'] W' (NumPost 1 W') := by
  have h := Mul_c A A' c c' 1 1 W'.heap.size W' (by rw [nd_1]; omega) r1 r2 (Nat.le_refl _)
  exact h
theorem low_110 (A A' : Option Addr) (c c' : Nat) (W' : World) (hc : nd W 1 ≤ c) (hc' : nd W 10 ≤ c') (r1 : Row W' W'.heap.size A 1 (nd W 1)) (r2 : Row W' W'.heap.size A' 10 (nd W 10)) : Calls Tryd.prog 41 #[.agg #[.bool false, .slice A (nd W 1) c, .slice A' (nd W 10) c']] W' (LwPost (fr false 1 10) W') :=
  Flow_c false 1 10 A A' c c' W' (by decide) (by rw [nd_1]; omega) (by rw [nd_10]; omega) hc hc' r1 r2
theorem rs_01 : rsG (fr false 1 10) = false ∧ rsN (fr false 1 10) = ⟨#[1]⟩ ∧ rsD (fr false 1 10) = ⟨#[10]⟩ ∧ rsE (fr false 1 10) = 0 := by
  obtain ⟨x1, x2, x3⟩ := low_fr (g := false) (n := 1) (d := 10) ⟨by decide, by decide, fun _ => rfl⟩
  have hf10 : fits 10 := by unfold fits; rw [nd_unique (b := 256) (n := 10) (k := 0) (by omega) (by decide) (by decide)]; omega
  obtain ⟨r1, r2, r3, r4⟩ := rs_ok (q := fr false 1 10) ⟨by rw [x2]; exact fits_1r, by rw [x3]; exact hf10⟩
  rw [r1, r2, r3, r4, x1, x2, x3, natS_1r, natS_one (n := 10) (by decide) (by decide)]
  exact ⟨rfl, rfl, rfl, rfl⟩
set_option maxRecDepth 100000 in
set_option maxHeartbeats 2000000 in
theorem PValue_01 (w : World) : Calls Tryd.prog 35 #[.agg #[.bool false, .bool false, .string s01, .string ⟨#[]⟩, .int .i64 1]] w fun e w' => e = .returned (.tuple #[.agg #[.bool false, .string ⟨#[1]⟩, .string ⟨#[10]⟩], .int .i64 0]) ∧ Below w.heap.size w w' := by
  have KO := Lib.hid (fun w => Of_n 10 w (by decide))
  have KP0 := Lib.hid (fun w => NPow_zero 10 w fits_10)
  have KP1 : Hid (∀ w, Calls Tryd.prog 57 #[.string (natS 10), .int .i64 1] w (StrPost (natS 10) 0 w)) := Lib.hid (fun w => NPow_same 10 1 w fits_10 (by omega) (Or.inr rfl))
  have T0 := VB.start w 25
  go_enter Tryd.func35, Tryd.ntmps35
  go_wp2_with fail
  refine (PSmall_nil _).mono ?_
  rintro ee w1 ⟨rfl, hb⟩
  replace T0 := T0.step hb
  clear hb
  obtain ⟨p0, p1, p2, p3, p4⟩ := T0.cells
  go_wp2_with fail
  have T2 := T0.iter
  clear T0 p0 p1 p2 p3 p4
  generalize w1.iter s01 0 = w2 at *
  generalize w1.heap.size = k at *
  have hn0 : ∀ ty, (Instr.next (.pointer (some ⟨k, 0, none⟩)) true ty).run Tryd.prog w2 = .ok (.tuple #[.bool true, .int .i64 0, .int .i32 48]) (w2.iterAt k s01 1) := fun ty => run_next_ascii_at w2 k s01 0 ty T2.2.2.2.2 (by decide) (by decide)
  refine wp_loop_rounds 3 ?_
  rw [rounds_succ]
  replace T2 := T2.next 1
  go_wp2_with fail
  clear hn0
  generalize w2.iterAt k s01 1 = w3 at *
  refine (put_01 _).mono ?_
  intro e w4 hp
  obtain ⟨A1, c1, rfl, hc1, hr1, hb⟩ := hp.get
  rw [nd_zero]
  replace T2 := T2.step hb
  clear hp hc1 hr1 hb
  have hn1 : ∀ ty, (Instr.next (.pointer (some ⟨k, 0, none⟩)) true ty).run Tryd.prog w4 = .ok (.tuple #[.bool true, .int .i64 1, .int .i32 49]) (w4.iterAt k s01 2) := fun ty => run_next_ascii_at w4 k s01 1 ty T2.2.2.2.2 (by decide) (by decide)
  go_wp2_with fail
  rw [rounds_succ]
  replace T2 := T2.next 2
  go_wp2_with fail
  clear hn1
  generalize w4.iterAt k s01 2 = w5 at *
  refine (put_02 _ _ _).mono ?_
  intro e w6 hp
  obtain ⟨A2, c2, rfl, hc2, hr2, hb⟩ := hp.get
  replace T2 := T2.step hb
  have HR2 := Lib.hid hr2
  clear hp hc2 hr2 hb
  have hn2 : ∀ ty, (Instr.next (.pointer (some ⟨k, 0, none⟩)) true ty).run Tryd.prog w6 = .ok (.tuple #[.bool false]) w6 := fun ty => run_next_end_at w6 k s01 2 ty T2.2.2.2.2 (by decide)
  go_wp2_with fail
  rw [rounds_succ]
  go_wp2_with fail
  refine (KO.out _).mono ?_
  rintro ee w7 ⟨rfl, hb⟩
  replace T2 := T2.step hb
  replace HR2 := Lib.hid ((HR2.out.below hb).more hb.size)
  clear hb hn2
  go_wp2_with fail
  refine (KP0.out _).mono ?_
  rintro ee w8 ⟨rfl, hb⟩
  replace T2 := T2.step hb
  replace HR2 := Lib.hid ((HR2.out.below hb).more hb.size)
  clear hb
  go_wp2_with fail
  refine (KO.out _).mono ?_
  rintro ee w9 ⟨rfl, hb⟩
  replace T2 := T2.step hb
  replace HR2 := Lib.hid ((HR2.out.below hb).more hb.size)
  clear hb
  go_wp2_with fail
  refine (KP1.out _).mono ?_
  rintro ee w10 ⟨rfl, hb⟩
  replace T2 := T2.step hb
  replace HR2 := Lib.hid ((HR2.out.below hb).more hb.size)
  clear hb
  have KW1 := Lib.hid (fun w => Pwords_c 1 w fits_1r)
  have KW10 := Lib.hid (fun w => Pwords_c 10 w fits_10)
  have hra : Row w10.drew w10.drew.heap.size A2 1 (nd W 1) := HR2.out.drewN 1
  have TT := T2.drew
  clear HR2
  have M1 := fun U (hU : VK w k 2 U) => hU.res.2.1
  have M2 := fun U (hU : VK w k 2 U) => hU.res.2.2.1
  have M3 := fun U (hU : VK w k 2 U) => hU.res.2.2.2.1
  have M4 := fun U (hU : VK w k 2 U) => hU.res.2.2.2.2.1
  have M5 := fun U (hU : VK w k 2 U) => hU.res.2.2.2.2.2.1
  have M6 := fun U (hU : VK w k 2 U) => hU.res.2.2.2.2.2.2
  have L0 := fun U (hU : VK w k 2 U) => hU.cells.2.1
  go_wp2_with fail
  go_region_held3 (VK w k 2) (first | assumption | exact VK.step (by assumption) (by assumption) | exact VK.put (by assumption) _ _ _ | exact VK.drew (by assumption) | exact VK.drawn (by assumption) _)
    (first
      | (go_at_call 40; (with_reducible refine (KW1.out _).mono ?_); rintro ee wa hp; obtain ⟨A3, c3, rfl, hc3, hr3, hb3⟩ := hp.get; have hrb := (hra.below hb3).more hb3.size; clear hp hra)
      | (go_at_call 42; (refine (mul_11 _ _ _ _ _ hrb hr3).mono ?_); rintro ee wb hp; obtain ⟨A4, c4, rfl, hc4, hr4, hb4⟩ := hp.get; clear hp hrb hr3)
      | (go_at_call 40; (with_reducible refine (KW10.out _).mono ?_); rintro ee wc hp; obtain ⟨A5, c5, rfl, hc5, hr5, hb5⟩ := hp.get; have hrc := (hr4.below hb5).more hb5.size; clear hp hr4)
      | (go_at_call 41; (refine (low_110 _ _ _ _ _ hc4 hc5 hrc hr5).mono ?_); rintro ee wd ⟨rfl, hb6⟩; have HSV := Lib.hid (VK.step (w := w) (by assumption) hb6)))
  obtain ⟨q0, q1, q2, q3, q4, q5, q6⟩ := HSV.out.res
  have hfin := below_put3 HSV.out.1 (show w.heap.size ≤ w.heap.size + 1 by omega)
  obtain ⟨z1, z2, z3, z4⟩ := rs_01
  rw [z1, z2, z3, z4] at *
  clear L0 M1 M2 M3 M4 M5 M6 T2 TT
  go_wp2_with fail
  refine bodyPost_ret (v := .tuple #[.agg #[.bool false, .string ⟨#[1]⟩, .string ⟨#[10]⟩], .int .i64 0]) (by simp [results, Tryd.results35, go_sem, q0, q1, q2, q3]) rfl ⟨rfl, hfin _ _ _⟩
end Go.Proofs.YtajcapliokblfaaDoor
set_option linter.unusedVariables false
set_option linter.unusedSimpArgs false
namespace Go.Proofs.YtajcapliokblfaaDoor
open Go Go.RowKit

theorem bex (p : Prop) : ∃ b : Bool, b = true ↔ p := by
  by_cases h : p
  · exact ⟨true, by simp [h]⟩
  · exact ⟨false, by simp [h]⟩
def envL (l : List Value) (i : Nat) : Value := l.getD i (.int .i64 0)
theorem envL_flat {l : List Value} (h : l.all (·.oneCell') = true) : ∀ i, (envL l i).oneCell' = true := by
  intro i
  unfold envL
  rw [List.getD_eq_getElem?_getD]
  cases hi : l[i]? with
  | none => rfl
  | some v =>
    rw [List.all_eq_true] at h
    exact h v (List.mem_of_getElem? hi)
@[reducible] def mkEnv (gl : List (Nat × List AV)) (l : List Value) (h : l.all (·.oneCell') = true) : Env := ⟨envL l, envL_flat h, gl⟩
section
variable [Env]
def OpT (P : Program) (k : List Nat) (l : List AV) (r : AV) : Prop :=
  ground r = true ∧ ∀ (o : Oper) xs, keyOf o = some (k, xs) → ∀ ρ : Operand → Value, (∀ g, ρ (.func g) = .func (.func g) #[] #[]) → xs.map ρ = l.map gval → ∀ w, (execOp ρ o).run P w = .ok (.value (gval r)) w
def CallT (P : Program) (g : FuncId) (l : List AV) (r : AV) : Prop :=
  ground r = true ∧ ∀ w xs, Globs Env.gl w → ARels w l xs → Calls P g xs.toArray w fun e w' => e = .returned (gval r) ∧ Below w.heap.size w w'
theorem callt {P : Program} {g : FuncId} {l : List AV} {r : AV} (hl : l.all ground = true) (hr : ground r = true) (h : ∀ w, Globs Env.gl w → Calls P g (l.map gval).toArray w fun e w' => e = .returned (gval r) ∧ Below w.heap.size w w') : CallT P g l r :=
  ⟨hr, fun w xs hG hx => by rw [@ARels.plain _ noKnow _ _ hl _ hx]; exact h w hG⟩
/-- One row of whole numbers and the like, all of it. -/
theorem callt_row {P : Program} {g : FuncId} {n : Nat} {cells : List AV} {r : AV} (hr : ground r = true) (h : ∀ w b c, Globs Env.gl w → b < w.heap.size → (∀ j v, cells[j]? = some v → w.cell? ⟨b, j, none⟩ = some (gval1 v)) → Calls P g #[.slice (some ⟨b, 0, none⟩) n c] w fun e w' => e = .returned (gval r) ∧ Below w.heap.size w w') : CallT P g [.row n 0 cells] r :=
  ⟨hr, fun w xs hG hx => by
    obtain ⟨y, ys, rfl, ⟨b, c, rfl, h1, h2⟩, rfl⟩ := hx
    exact h w b c hG h1 (fun j v hj => by have := h2 j v hj; rwa [Nat.zero_add] at this)⟩
def OpsT (P : Program) : List (List Nat × List AV × AV) → Prop
  | [] => True
  | p :: t => OpT P p.1 p.2.1 p.2.2 ∧ OpsT P t
def CallsT (P : Program) : List (FuncId × List AV × AV) → Prop
  | [] => True
  | p :: t => CallT P p.1 p.2.1 p.2.2 ∧ CallsT P t
theorem OpsT.mem {P : Program} : ∀ {t : List (List Nat × List AV × AV)}, OpsT P t → ∀ {k l r}, (k, l, r) ∈ t → OpT P k l r
  | [], _, _, _, _, h => by cases h
  | p :: t, hp, k, l, r, h => by
    rcases List.mem_cons.1 h with e | h
    · subst e; exact hp.1
    · exact OpsT.mem hp.2 h
theorem CallsT.mem {P : Program} : ∀ {t : List (FuncId × List AV × AV)}, CallsT P t → ∀ {k l r}, (k, l, r) ∈ t → CallT P k l r
  | [], _, _, _, _, h => by cases h
  | p :: t, hp, k, l, r, h => by
    rcases List.mem_cons.1 h with e | h
    · subst e; exact hp.1
    · exact CallsT.mem hp.2 h
theorem KnowOk.of [Know] {P : Program} (h1 : OpsT P Know.ops) (h2 : CallsT P Know.calls) : KnowOk P := ⟨fun k l r h => h1.mem h, fun k l r h => h2.mem h⟩
/-- A binary operation at values that are named. -/
theorem opt_bin {P : Program} {op : BinOp} {t : TypeId} {a b r : AV} (hr : ground r = true) (h : ∀ x y w, (do eqGuard op t x y (gval a) (gval b); binOp op t (gval a) (gval b)).run P w = .ok (gval r) w) : OpT P [0, binKey op, t] [a, b] r := by
  refine ⟨hr, fun o xs hk ρ hρ hx w => ?_⟩
  unfold keyOf at hk
  obtain ⟨dst, o, type, pos, after, guard⟩ := o
  simp only at hk
  split at hk
  · rename_i op' t' x y yt
    simp only [Option.some.injEq, Prod.mk.injEq, List.cons.injEq, and_true, true_and] at hk
    obtain ⟨⟨h1, h2⟩, h3⟩ := hk
    subst h2 h3
    have ho : op' = op := by cases op' <;> cases op <;> first | rfl | cases h1
    subst ho
    simp only [List.map_cons, List.map_nil, List.cons.injEq, and_true] at hx
    obtain ⟨e1, e2⟩ := hx
    have := h x y w
    simp only [execOp, e1, e2, Sem.run_bind, Sem.run_pure] at this ⊢
    rw [this]; rfl
  all_goals first
    | (simp only [Option.some.injEq, Prod.mk.injEq, List.cons.injEq] at hk; have := hk.1.1; omega)
    | (split at hk <;> first | cases hk | (simp only [Option.some.injEq, Prod.mk.injEq, List.cons.injEq] at hk; have := hk.1.1; omega))
    | cases hk
theorem opt_int {P : Program} {op : BinOp} {t : TypeId} {a b r : AV} {k : IntKind} {x y : Int} {v : Value} (ha : gval a = .int k x) (hb : gval b = .int k y) (hr : ground r = true) (hv : gval r = v) (h : ∀ w, (binOp op t (.int k x) (.int k y)).run P w = .ok v w) : OpT P [0, binKey op, t] [a, b] r := by
  refine opt_bin hr fun p q w => ?_
  rw [ha, hb, hv]
  simp only [Sem.run_bind, eqGuard_int, Result.andThen_ok]
  exact h w
theorem opt_eql {P : Program} {t : TypeId} {a b : AV} {k : IntKind} {x y : Int} {c : Bool} (ha : gval a = .int k x) (hb : gval b = .int k y) (h : (x == y) = c) : OpT P [0, 11, t] [a, b] (.lit (.bool c)) :=
  opt_int (op := .eql) ha hb rfl rfl fun w => by rw [← h]; simp [binOp, Op.intCmp, gval, gval2, gval1]
theorem opt_neq {P : Program} {t : TypeId} {a b : AV} {k : IntKind} {x y : Int} {c : Bool} (ha : gval a = .int k x) (hb : gval b = .int k y) (h : (x != y) = c) : OpT P [0, 12, t] [a, b] (.lit (.bool c)) :=
  opt_int (op := .neq) ha hb rfl rfl fun w => by rw [← h]; simp [binOp, Op.intCmp, gval, gval2, gval1]
theorem opt_lss {P : Program} {t : TypeId} {a b : AV} {k : IntKind} {x y : Int} {c : Bool} (ha : gval a = .int k x) (hb : gval b = .int k y) (h : decide (x < y) = c) : OpT P [0, 13, t] [a, b] (.lit (.bool c)) :=
  opt_int (op := .lss) ha hb rfl rfl fun w => by rw [← h]; simp [binOp, Op.intCmp, gval, gval2, gval1]
theorem opt_leq {P : Program} {t : TypeId} {a b : AV} {k : IntKind} {x y : Int} {c : Bool} (ha : gval a = .int k x) (hb : gval b = .int k y) (h : decide (x ≤ y) = c) : OpT P [0, 14, t] [a, b] (.lit (.bool c)) :=
  opt_int (op := .leq) ha hb rfl rfl fun w => by rw [← h]; simp [binOp, Op.intCmp, gval, gval2, gval1]
theorem opt_gtr {P : Program} {t : TypeId} {a b : AV} {k : IntKind} {x y : Int} {c : Bool} (ha : gval a = .int k x) (hb : gval b = .int k y) (h : decide (x > y) = c) : OpT P [0, 15, t] [a, b] (.lit (.bool c)) :=
  opt_int (op := .gtr) ha hb rfl rfl fun w => by rw [← h]; simp [binOp, Op.intCmp, gval, gval2, gval1]
theorem opt_geq {P : Program} {t : TypeId} {a b : AV} {k : IntKind} {x y : Int} {c : Bool} (ha : gval a = .int k x) (hb : gval b = .int k y) (h : decide (x ≥ y) = c) : OpT P [0, 16, t] [a, b] (.lit (.bool c)) :=
  opt_int (op := .geq) ha hb rfl rfl fun w => by rw [← h]; simp [binOp, Op.intCmp, gval, gval2, gval1]
theorem opt_eql_i {P : Program} {t : TypeId} {a b : AV} {k : IntKind} {x y : Int} {c : Bool} (ha : gval a = .int k x) (hb : gval b = .int k y) (h : c = true ↔ x = y) : OpT P [0, 11, t] [a, b] (.lit (.bool c)) := opt_eql ha hb (by rw [Bool.eq_iff_iff, h]; exact beq_iff_eq)
theorem opt_neq_i {P : Program} {t : TypeId} {a b : AV} {k : IntKind} {x y : Int} {c : Bool} (ha : gval a = .int k x) (hb : gval b = .int k y) (h : c = true ↔ x = y) : OpT P [0, 12, t] [a, b] (.lit (.bool (!c))) := opt_neq ha hb (by rw [bne, show (x == y) = c from by rw [Bool.eq_iff_iff, h]; exact beq_iff_eq])
theorem opt_lss_i {P : Program} {t : TypeId} {a b : AV} {k : IntKind} {x y : Int} {c : Bool} (ha : gval a = .int k x) (hb : gval b = .int k y) (h : c = true ↔ x < y) : OpT P [0, 13, t] [a, b] (.lit (.bool c)) := opt_lss ha hb (by rw [Bool.eq_iff_iff, h]; exact decide_eq_true_iff)
theorem opt_leq_i {P : Program} {t : TypeId} {a b : AV} {k : IntKind} {x y : Int} {c : Bool} (ha : gval a = .int k x) (hb : gval b = .int k y) (h : c = true ↔ x ≤ y) : OpT P [0, 14, t] [a, b] (.lit (.bool c)) := opt_leq ha hb (by rw [Bool.eq_iff_iff, h]; exact decide_eq_true_iff)
theorem opt_gtr_i {P : Program} {t : TypeId} {a b : AV} {k : IntKind} {x y : Int} {c : Bool} (ha : gval a = .int k x) (hb : gval b = .int k y) (h : c = true ↔ x > y) : OpT P [0, 15, t] [a, b] (.lit (.bool c)) := opt_gtr ha hb (by rw [Bool.eq_iff_iff, h]; exact decide_eq_true_iff)
theorem opt_geq_i {P : Program} {t : TypeId} {a b : AV} {k : IntKind} {x y : Int} {c : Bool} (ha : gval a = .int k x) (hb : gval b = .int k y) (h : c = true ↔ x ≥ y) : OpT P [0, 16, t] [a, b] (.lit (.bool c)) := opt_geq ha hb (by rw [Bool.eq_iff_iff, h]; exact decide_eq_true_iff)
theorem opt_eql_t {P : Program} {t : TypeId} {a b : AV} {k : IntKind} {x y : Int} (ha : gval a = .int k x) (hb : gval b = .int k y) (h : x = y) : OpT P [0, 11, t] [a, b] (.lit (.bool true)) := opt_eql ha hb (beq_iff_eq.2 h)
theorem opt_eql_f {P : Program} {t : TypeId} {a b : AV} {k : IntKind} {x y : Int} (ha : gval a = .int k x) (hb : gval b = .int k y) (h : ¬ x = y) : OpT P [0, 11, t] [a, b] (.lit (.bool false)) := opt_eql ha hb (beq_eq_false_iff_ne.2 h)
theorem opt_neq_t {P : Program} {t : TypeId} {a b : AV} {k : IntKind} {x y : Int} (ha : gval a = .int k x) (hb : gval b = .int k y) (h : ¬ x = y) : OpT P [0, 12, t] [a, b] (.lit (.bool true)) := opt_neq ha hb (by rw [bne, beq_eq_false_iff_ne.2 h]; rfl)
theorem opt_neq_f {P : Program} {t : TypeId} {a b : AV} {k : IntKind} {x y : Int} (ha : gval a = .int k x) (hb : gval b = .int k y) (h : x = y) : OpT P [0, 12, t] [a, b] (.lit (.bool false)) := opt_neq ha hb (by rw [bne, beq_iff_eq.2 h]; rfl)
theorem opt_lss_t {P : Program} {t : TypeId} {a b : AV} {k : IntKind} {x y : Int} (ha : gval a = .int k x) (hb : gval b = .int k y) (h : x < y) : OpT P [0, 13, t] [a, b] (.lit (.bool true)) := opt_lss ha hb (decide_eq_true h)
theorem opt_lss_f {P : Program} {t : TypeId} {a b : AV} {k : IntKind} {x y : Int} (ha : gval a = .int k x) (hb : gval b = .int k y) (h : ¬ x < y) : OpT P [0, 13, t] [a, b] (.lit (.bool false)) := opt_lss ha hb (decide_eq_false h)
theorem opt_leq_t {P : Program} {t : TypeId} {a b : AV} {k : IntKind} {x y : Int} (ha : gval a = .int k x) (hb : gval b = .int k y) (h : x ≤ y) : OpT P [0, 14, t] [a, b] (.lit (.bool true)) := opt_leq ha hb (decide_eq_true h)
theorem opt_leq_f {P : Program} {t : TypeId} {a b : AV} {k : IntKind} {x y : Int} (ha : gval a = .int k x) (hb : gval b = .int k y) (h : ¬ x ≤ y) : OpT P [0, 14, t] [a, b] (.lit (.bool false)) := opt_leq ha hb (decide_eq_false h)
theorem opt_gtr_t {P : Program} {t : TypeId} {a b : AV} {k : IntKind} {x y : Int} (ha : gval a = .int k x) (hb : gval b = .int k y) (h : x > y) : OpT P [0, 15, t] [a, b] (.lit (.bool true)) := opt_gtr ha hb (decide_eq_true h)
theorem opt_gtr_f {P : Program} {t : TypeId} {a b : AV} {k : IntKind} {x y : Int} (ha : gval a = .int k x) (hb : gval b = .int k y) (h : ¬ x > y) : OpT P [0, 15, t] [a, b] (.lit (.bool false)) := opt_gtr ha hb (decide_eq_false h)
theorem opt_geq_t {P : Program} {t : TypeId} {a b : AV} {k : IntKind} {x y : Int} (ha : gval a = .int k x) (hb : gval b = .int k y) (h : x ≥ y) : OpT P [0, 16, t] [a, b] (.lit (.bool true)) := opt_geq ha hb (decide_eq_true h)
theorem opt_geq_f {P : Program} {t : TypeId} {a b : AV} {k : IntKind} {x y : Int} (ha : gval a = .int k x) (hb : gval b = .int k y) (h : ¬ x ≥ y) : OpT P [0, 16, t] [a, b] (.lit (.bool false)) := opt_geq ha hb (decide_eq_false h)
end
end Go.Proofs.YtajcapliokblfaaDoor
set_option linter.unusedSimpArgs false
set_option linter.unusedVariables false
namespace Go.Proofs.YtajcapliokblfaaDoor
open Go Go.RowKit

theorem Globs.below {gl : List (Nat × List AV)} {w w' : World} (h : Globs gl w) {n : Nat} (hb : Below n w w') (hn : w.heap.size ≤ n) : Globs gl w' := fun g B hB => by
  obtain ⟨h1, h2⟩ := h g B hB
  refine ⟨Nat.lt_of_lt_of_le h1 hb.size, fun i v hv => ?_⟩
  obtain ⟨u, e, c⟩ := h2 i v hv
  exact ⟨u, e, (hb.cell (p := ⟨g, i, none⟩) (by show g < n; omega)).trans c⟩
end Go.Proofs.YtajcapliokblfaaDoor
set_option linter.unusedVariables false
set_option linter.unusedSimpArgs false
namespace Go.Proofs.YtajcapliokblfaaDoor
open Go Go.RowKit Nt

@[reducible] def RatioNames_law_f : FuncId := 3
@[reducible] def RatioNames_law_a : List AV := []
@[reducible] noncomputable def RatioNames_law_k : Know := ⟨[],
  [(35, [.lit (.agg #[.bool false, .bool false, .string ⟨#[48, 49]⟩, .string ⟨#[]⟩, .int .i64 1])], .lit (.tuple #[.agg #[.bool false, .string ⟨#[1]⟩, .string ⟨#[10]⟩], .int .i64 0]))]⟩
theorem RatioNames_law_r1 : @comes RatioNames_law_k Tryd.prog glT 6000 RatioNames_law_f RatioNames_law_a = some (.lit (.bool true)) := by kernel_rfl
set_option maxRecDepth 100000 in
set_option maxHeartbeats 4000000 in
theorem RatioNames_law (w : World) (hG : Globs glT w) : Calls Tryd.prog 3 #[] w fun e w' => e = .returned (.bool true) ∧ Below w.heap.size w w' := by
  letI : Env := mkEnv glT [] rfl
  have hops : OpsT Tryd.prog (@Know.ops RatioNames_law_k) := trivial
  have hcalls : CallsT Tryd.prog (@Know.calls RatioNames_law_k) := ⟨callt rfl rfl fun w hG => PValue_01 w,
    trivial⟩
  have fin : ∀ v, @comes RatioNames_law_k Tryd.prog glT 6000 RatioNames_law_f RatioNames_law_a = some v → ground v = true → Ending.returned (gval v) = .returned (.bool true) → Calls Tryd.prog 3 #[] w fun e w' => e = .returned (.bool true) ∧ Below w.heap.size w w' := fun v h1 h2 h3 => (@sym_ok _ RatioNames_law_k _ (@KnowOk.of _ RatioNames_law_k _ hops hcalls) (by kernel_rfl) _ _ _ _ h1 rfl h2 _ hG).mono fun e w' h => ⟨h.1.trans h3, h.2⟩
  clear hops hcalls
  exact fin _ (RatioNames_law_r1) rfl rfl
end Go.Proofs.YtajcapliokblfaaDoor
namespace Go.Proofs.YtajcapliokblfaaDoor
open Go Go.RowKit Go.WideShapes Go.ChangeShapes
variable {H : Type} {enc : TypeId × Value → H} {P : Program}

theorem postBelow {f : Func} {s : ChangeSpec} {apart fresh handsOn again : Bool} {W W' : World} {args : Array Value} {v : Value} {ds gs : List (DataW H)} {places pa pv : List MemPlace}
    (whole : DataW.Whole enc P f.params.toList s.vars apart W args.toList ds gs places)
    (res : ∀ (b : Nat) (sp : Nat → Bool) (hd : Bool), DataW.TrodAll enc P W' b sp hd f.resultTypes.toList (v.resultList f.resultTypes.size) (s.fn H (ds ++ gs)).results [])
    (left : ∀ sp : Nat → Bool, (∀ p ∈ places, sp p.block = true) → DataW.TrodAll enc P W' 0 sp true f.params.toList args.toList (s.fn H (ds ++ gs)).args pa)
    (vars : ∀ sp : Nat → Bool, (∀ p ∈ places, sp p.block = true) → DataW.TrodVars enc P W' sp s.vars (s.fn H (ds ++ gs)).vars pv)
    (split : places = pa ++ pv) (below : Below W.heap.size W W')
    (ok : ∀ (j : Nat) (t : TypeId) (r : Value), f.resultTypes[j]? = some t → (v.resultList f.resultTypes.size)[j]? = some r → Value.okWide P W' .any 0 t r) :
    s.post enc P f apart fresh handsOn again W args v W' := by
  have old : ∀ p ∈ places, p.block < W.heap.size := fun p hp => whole.lt p hp
  have same : ∀ p ∈ places, (fun b => decide (b < W.heap.size)) p.block = true := fun p hp => decide_eq_true (old p hp)
  have kept : W.keptBut W' (fun p => p ∈ places ∧ p ∈ pa ++ pv) :=
    World.keptBut_mono (fun p hp => ⟨hp, split ▸ hp⟩) (below.frame (· ∈ places))
  have free : ∀ b off, MemPlace.cell b off ∈ pa ++ pv → W'.frozen? ⟨b, off, none⟩ = false := fun b off hp => by
    have hin : MemPlace.cell b off ∈ places := split ▸ hp
    rw [below.frozen (p := ⟨b, off, none⟩) (old _ hin)]
    obtain ⟨_, _, _, _, _, hz, _⟩ := whole
    exact hz b off hin
  have apartNow : apart = true → (pa ++ pv).Nodup := fun ha => by
    obtain ⟨_, _, _, _, _, _, hn⟩ := whole
    exact split ▸ hn ha
  refine ⟨ds, gs, places, [], pa, pv, whole, res _ _ _, left _ same, vars _ same, ?_, fun _ => ⟨ok, _, _, ([] ++ pa) ++ pv, ⟨[] ++ pa, pv, trodAll_append (left _ (fun _ _ => rfl)) (res _ _ _), vars _ (fun _ _ => rfl), rfl, ?_, ?_⟩, ?_⟩⟩
  · exact World.keptBut_mono (fun p hp => ⟨hp.1, Or.inr (List.mem_append.1 hp.2)⟩) kept
  · intro b off hp; exact free b off (by simpa using hp)
  · intro ha; simpa using apartNow ha
  · intro p hp _; rw [split]; simpa using hp
end Go.Proofs.YtajcapliokblfaaDoor
