/- Texts put together: P11 P15 P13 P17 P18 PP. -/
import Derived.Test.YtajcapliokblfaaDoorQ5
import Derived.Test.YtajcapliokblfaaDoorRows
import Derived.Test.YtajcapliokblfaaDoorQ4
import Derived.ProofKit
import Derived.Lib.SmallJoins
import Derived.OpenShut
import Derived.ShutString
set_option linter.unusedSimpArgs false
set_option linter.unusedVariables false
namespace Go.Proofs.YtajcapliokblfaaDoor
open Go Go.RowKit Nt

theorem Row.al {W0 : World} {A : Option Addr} {n L : Nat} (h : Row W0 W0.heap.size A n L) (o : Obj) : Row (W0.alloc o) (W0.alloc o).heap.size A n L := (h.below ((Below.refl _ _).alloc (Nat.le_refl _) o)).more (by simp)
theorem Bx3.newD (w : World) (a b c : Value) (T : TypeId) : Bx3 (w.alloc (.cells #[a, b, c] T)).drew w.heap.size (a, b, c) := (Bx3.new w a b c T).step (Below.refl _ _).drew
theorem BL.moreS {w : World} {l : List C3} {U V : World} (h : BL w l U) (hb : Below U.heap.size U V) (o : Obj) : BL w l (V.alloc o) := (h.step hb).more o
theorem BL.put {w : World} {l : List C3} {U V : World} (h : BL w l U) (hv : BL w l V) (x y z : Value) : BL w l (((U.setCell ⟨V.heap.size, 0, none⟩ x).setCell ⟨V.heap.size, 1, none⟩ y).setCell ⟨V.heap.size, 2, none⟩ z) := by
  refine ⟨below_put3 h.1 hv.1.size _ _ _, fun i c hi => (h.2 i c hi).far ?_ _ _ _⟩
  have := (hv.2 i c hi).facts.1
  omega
set_option maxRecDepth 100000 in
set_option maxHeartbeats 1000000 in
theorem PCompare_no (x y : Rx) (w : World) (h : x.No ∨ y.No) :
    Calls Tryd.prog 12 #[.agg #[.bool x.g, .string x.s, .string x.t], .agg #[.bool y.g, .string y.s, .string y.t]] w fun e w' => e = .returned (.tuple #[.int .i64 0, .int .i64 2]) ∧ Below w.heap.size w w' := by
  obtain ⟨bl, hbl⟩ : ∃ bl : List C3, bl = [(.bool x.g, .string x.s, .string x.t), (.bool y.g, .string y.s, .string y.t)] := ⟨_, rfl⟩
  have T0 := BL.start2 w (.bool x.g) (.string x.s) (.string x.t) (.bool y.g) (.string y.s) (.string y.t) 25 25
  rw [← hbl] at T0
  have L0 : ∀ U, BL w bl U → U.cell? ⟨w.heap.size, 0, none⟩ = some (.bool x.g) := fun U hU => (hU.box 0 (.bool x.g, .string x.s, .string x.t) (by rw [hbl]; rfl)).2.1
  have L1 : ∀ U, BL w bl U → U.cell? ⟨w.heap.size, 1, none⟩ = some (.string x.s) := fun U hU => (hU.box 0 (.bool x.g, .string x.s, .string x.t) (by rw [hbl]; rfl)).2.2.1
  have L2 : ∀ U, BL w bl U → U.cell? ⟨w.heap.size, 2, none⟩ = some (.string x.t) := fun U hU => (hU.box 0 (.bool x.g, .string x.s, .string x.t) (by rw [hbl]; rfl)).2.2.2.1
  have L3 : ∀ U, BL w bl U → U.cell? ⟨w.heap.size + 1, 0, none⟩ = some (.bool y.g) := fun U hU => (hU.box 1 (.bool y.g, .string y.s, .string y.t) (by rw [hbl]; rfl)).2.1
  have L4 : ∀ U, BL w bl U → U.cell? ⟨w.heap.size + 1, 1, none⟩ = some (.string y.s) := fun U hU => (hU.box 1 (.bool y.g, .string y.s, .string y.t) (by rw [hbl]; rfl)).2.2.1
  have L5 : ∀ U, BL w bl U → U.cell? ⟨w.heap.size + 1, 2, none⟩ = some (.string y.t) := fun U hU => (hU.box 1 (.bool y.g, .string y.s, .string y.t) (by rw [hbl]; rfl)).2.2.2.1
  have HBL := Lib.hid hbl
  clear hbl
  clear L0 L1 L2 L3 L4 L5
  rcases x.cases_ with ⟨q, hq⟩ | hn
  · have hy : y.No := h.resolve_left fun c => c q hq
    have K1 := Lib.hid (fun w => PMay_x x q w hq)
    have K2 := Lib.hid (fun w => PMay_no y w hy)
    clear h hq hy
    go_enter Tryd.func12, Tryd.ntmps12
    go_wp2_with (first
      | (go_at_call 14; (with_reducible refine (K1.out _).mono ?_); rintro ee w1 ⟨rfl, hb⟩; replace T0 := T0.step hb; clear hb; obtain ⟨p0, p1, p2, p3, p4, p5, p6⟩ := T0.box 0 (.bool x.g, .string x.s, .string x.t) (by rw [HBL.out]; rfl); obtain ⟨s0, s1, s2, s3, s4, s5, s6⟩ := T0.box 1 (.bool y.g, .string y.s, .string y.t) (by rw [HBL.out]; rfl))
      | (go_at_call 14; (with_reducible refine (K2.out _).mono ?_); rintro ee w1 ⟨rfl, hb⟩; replace T0 := T0.step hb; clear hb))
    go_ret2
    exact ⟨rfl, T0.1⟩
  · have K1 := Lib.hid (fun w => PMay_no x w hn)
    clear h hn
    go_enter Tryd.func12, Tryd.ntmps12
    go_wp2_with (first
      | (go_at_call 14; (with_reducible refine (K1.out _).mono ?_); rintro ee w1 ⟨rfl, hb⟩; replace T0 := T0.step hb; clear hb; obtain ⟨p0, p1, p2, p3, p4, p5, p6⟩ := T0.box 0 (.bool x.g, .string x.s, .string x.t) (by rw [HBL.out]; rfl); obtain ⟨s0, s1, s2, s3, s4, s5, s6⟩ := T0.box 1 (.bool y.g, .string y.s, .string y.t) (by rw [HBL.out]; rfl)))
    go_ret2
    exact ⟨rfl, T0.1⟩
set_option maxRecDepth 100000 in
set_option maxHeartbeats 2000000 in
theorem PCompare_c (x y : Rat) (w : World) (hx : qfits x) (hy : qfits y) :
    Calls Tryd.prog 12 #[qv x, qv y] w fun e w' => e = .returned (.tuple #[.int .i64 (qC x y), .int .i64 0]) ∧ Below w.heap.size w w' := by
  obtain ⟨q1, q2⟩ := q_words hx
  obtain ⟨q3, q4⟩ := q_words hy
  have KM1 := Lib.hid (fun w => PMay_yes x w hx)
  have KM2 := Lib.hid (fun w => PMay_yes y w hy)
  have KO1 := Lib.hid (fun w => Popen_c (qG x) (qN x) (qD x) w hx.1 hx.2)
  have KO2 := Lib.hid (fun w => Popen_c (qG y) (qN y) (qD y) w hy.1 hy.2)
  have hz0 : qD x * qD y ≠ 0 := Nat.mul_ne_zero (qD_pos x) (qD_pos y)
  have hfs := fr_sub x y
  have hqc := qC_sub x y
  rw [← hfs] at hqc
  obtain ⟨G, hG⟩ : ∃ G, G = adG (qG x) (qN x * qD y) (!qG y) (qN y * qD x) := ⟨_, rfl⟩
  obtain ⟨N, hN⟩ : ∃ N, N = adN (qG x) (qN x * qD y) (!qG y) (qN y * qD x) := ⟨_, rfl⟩
  obtain ⟨D, hD⟩ : ∃ D, D = qD x * qD y := ⟨_, rfl⟩
  rw [← hG, ← hN, ← hD] at hqc
  rw [← hD] at hz0
  have KF : Hid (∀ (A A' B B' : Option Addr) (c c' b b' : Nat) (W' : World), Row W' W'.heap.size A (qN x) (nd W (qN x)) → Row W' W'.heap.size A' (qD x) (nd W (qD x)) → Row W' W'.heap.size B (qN y) (nd W (qN y)) → Row W' W'.heap.size B' (qD y) (nd W (qD y)) → Calls Tryd.prog 24 #[.agg #[.bool (qG x), .slice A (nd W (qN x)) c, .slice A' (nd W (qD x)) c'], .agg #[.bool (qG y), .slice B (nd W (qN y)) b, .slice B' (nd W (qD y)) b']] W' (FrPost G N D W')) := Lib.hid fun A A' B B' c c' b b' W' r1 r2 r3 r4 => by
    rw [hG, hN, hD]
    exact Fsub_c (qG x) (qG y) (qN x) (qD x) (qN y) (qD y) A A' B B' c c' b b' W' (by omega) (by omega) (by omega) (by omega) r1 r2 r3 r4
  have HQ : Hid (qC x y = if N = 0 then 0 else if G = true then -1 else 1) := Lib.hid (by
    rw [hqc]
    have e0 : qN (fr G N D) = 0 ↔ N = 0 := by
      constructor
      · intro h
        rcases Nat.eq_zero_or_pos N with c | c
        · exact c
        · rw [qN_fr G N D hz0] at h
          have hg : 0 < Nat.gcd N D := Nat.gcd_pos_of_pos_left D c
          have := Nat.div_pos (Nat.le_of_dvd c (Nat.gcd_dvd_left N D)) hg
          omega
      · intro h; rw [h, fr_zero, qN_zero]
    by_cases hc : N = 0
    · rw [if_pos (e0.2 hc), if_pos hc]
    · rw [if_neg (fun h => hc (e0.1 h)), if_neg hc, qG_fr G N D hz0 hc])
  clear hqc hfs hG hN hD q1 q2 q3 q4 hx hy hz0
  obtain ⟨bl, hbl⟩ : ∃ bl : List C3, bl = [(.bool (qG x), .string (natS (qN x)), .string (natS (qD x))), (.bool (qG y), .string (natS (qN y)), .string (natS (qD y)))] := ⟨_, rfl⟩
  have T0 := BL.start2 w (.bool (qG x)) (.string (natS (qN x))) (.string (natS (qD x))) (.bool (qG y)) (.string (natS (qN y))) (.string (natS (qD y))) 25 25
  rw [← hbl] at T0
  have L0 : ∀ U, BL w bl U → U.cell? ⟨w.heap.size, 0, none⟩ = some (.bool (qG x)) := fun U hU => (hU.box 0 (.bool (qG x), .string (natS (qN x)), .string (natS (qD x))) (by rw [hbl]; rfl)).2.1
  have L1 : ∀ U, BL w bl U → U.cell? ⟨w.heap.size, 1, none⟩ = some (.string (natS (qN x))) := fun U hU => (hU.box 0 (.bool (qG x), .string (natS (qN x)), .string (natS (qD x))) (by rw [hbl]; rfl)).2.2.1
  have L2 : ∀ U, BL w bl U → U.cell? ⟨w.heap.size, 2, none⟩ = some (.string (natS (qD x))) := fun U hU => (hU.box 0 (.bool (qG x), .string (natS (qN x)), .string (natS (qD x))) (by rw [hbl]; rfl)).2.2.2.1
  have L3 : ∀ U, BL w bl U → U.cell? ⟨w.heap.size + 1, 0, none⟩ = some (.bool (qG y)) := fun U hU => (hU.box 1 (.bool (qG y), .string (natS (qN y)), .string (natS (qD y))) (by rw [hbl]; rfl)).2.1
  have L4 : ∀ U, BL w bl U → U.cell? ⟨w.heap.size + 1, 1, none⟩ = some (.string (natS (qN y))) := fun U hU => (hU.box 1 (.bool (qG y), .string (natS (qN y)), .string (natS (qD y))) (by rw [hbl]; rfl)).2.2.1
  have L5 : ∀ U, BL w bl U → U.cell? ⟨w.heap.size + 1, 2, none⟩ = some (.string (natS (qD y))) := fun U hU => (hU.box 1 (.bool (qG y), .string (natS (qN y)), .string (natS (qD y))) (by rw [hbl]; rfl)).2.2.2.1
  have HBL := Lib.hid hbl
  clear hbl
  have CK : ∀ {U : World}, BL w bl U → ∀ (C : Nat) (a b c : Value), U.heap.size ≤ C → BL w bl U := fun h _ _ _ _ _ => h
  obtain ⟨p0, p1, p2, p3, p4, p5, p6⟩ := T0.box 0 (.bool (qG x), .string (natS (qN x)), .string (natS (qD x))) (by rw [HBL.out]; rfl); obtain ⟨s0, s1, s2, s3, s4, s5, s6⟩ := T0.box 1 (.bool (qG y), .string (natS (qN y)), .string (natS (qD y))) (by rw [HBL.out]; rfl)
  unfold qv
  generalize qC x y = R at *
  go_enter Tryd.func12, Tryd.ntmps12
  go_upto_region 3 with (first
    | (go_at_call 14; (with_reducible refine (KM1.out _).mono ?_); rintro ee w1 ⟨rfl, hb⟩; replace T0 := T0.step hb; clear hb; obtain ⟨p0, p1, p2, p3, p4, p5, p6⟩ := T0.box 0 (.bool (qG x), .string (natS (qN x)), .string (natS (qD x))) (by rw [HBL.out]; rfl); obtain ⟨s0, s1, s2, s3, s4, s5, s6⟩ := T0.box 1 (.bool (qG y), .string (natS (qN y)), .string (natS (qD y))) (by rw [HBL.out]; rfl))
    | (go_at_call 14; (with_reducible refine (KM2.out _).mono ?_); rintro ee w1 ⟨rfl, hb⟩; replace T0 := T0.step hb; clear hb; obtain ⟨p0, p1, p2, p3, p4, p5, p6⟩ := T0.box 0 (.bool (qG x), .string (natS (qN x)), .string (natS (qD x))) (by rw [HBL.out]; rfl); obtain ⟨s0, s1, s2, s3, s4, s5, s6⟩ := T0.box 1 (.bool (qG y), .string (natS (qN y)), .string (natS (qD y))) (by rw [HBL.out]; rfl)))
  clear p0 p1 p2 p3 p4 p5 p6 s0 s1 s2 s3 s4 s5 s6 KM1 KM2
  have TD := T0.drew
  go_region_held3 (BL w bl) (first | assumption | exact BL.step (by assumption) (by assumption) | exact BL.drew (by assumption) | exact BL.drawn (by assumption) _ | exact BL.more (by assumption) _ | exact BL.moreS (by assumption) (by assumption) _ | exact BL.put (by assumption) (by assumption) _ _ _ | exact BL.put (by assumption) TD _ _ _ | exact BL.put (by assumption) (TD.step hb1) _ _ _ | exact BL.put (by assumption) ((TD.step hb1).step hb2) _ _ _ | exact (((TD.step hb1).step hb2).step hb3).more _)
    (first
      | (go_at_call 26; (with_reducible refine (KO1.out _).mono ?_); rintro ee wa ⟨A1, c1, A2, c2, rfl, hc1, hc2, hr1, hr2, hb1⟩; have BOX := Bx3.step (Bx3.newD _ (.bool false) (.slice none 0 0) (.slice none 0 0) 47) hb1; obtain ⟨b0, b1, b2, b3, b4, b5, b6⟩ := BOX.facts)
      | (go_at_call 26; (with_reducible refine (KO1.out _).mono ?_); rintro ee wa ⟨A1, c1, A2, c2, rfl, hc1, hc2, hr1, hr2, hb1⟩)
      | (go_at_call 26; (with_reducible refine (KO2.out _).mono ?_); rintro ee wb ⟨A3, c3, A4, c4, rfl, hc3, hc4, hr3, hr4, hb2⟩; have hr1' := ((hr1).below hb2).more hb2.size; have hr2' := ((hr2).below hb2).more hb2.size; clear hr1 hr2; have BOX2 := BOX.step hb2; clear BOX; have BOX := BOX2; clear BOX2; clear b0 b1 b2 b3 b4 b5 b6; obtain ⟨b0, b1, b2, b3, b4, b5, b6⟩ := BOX.facts)
      | (go_at_call 26; (with_reducible refine (KO2.out _).mono ?_); rintro ee wb ⟨A3, c3, A4, c4, rfl, hc3, hc4, hr3, hr4, hb2⟩; have hr1' := ((hr1.al _).below hb2).more hb2.size; have hr2' := ((hr2.al _).below hb2).more hb2.size; clear hr1 hr2; have BOX := Bx3.step (Bx3.new _ (.bool false) (.slice none 0 0) (.slice none 0 0) 47) hb2; obtain ⟨b0, b1, b2, b3, b4, b5, b6⟩ := BOX.facts)
      | (go_at_call 26; (with_reducible refine (KO2.out _).mono ?_); rintro ee wb ⟨A3, c3, A4, c4, rfl, hc3, hc4, hr3, hr4, hb2⟩; have hr1' := ((hr1).below hb2).more hb2.size; have hr2' := ((hr2).below hb2).more hb2.size; clear hr1 hr2)
      | (go_at_call 24; (refine (KF.out _ _ _ _ _ _ _ _ _ (hr1') (hr2') (hr3) (hr4)).mono ?_); rintro ee wc ⟨A5, c5, A6, c6, rfl, hc5, hc6, hr5, hr6, hb3⟩; clear hr1' hr2' hr3 hr4; have BOX2 := BOX.step hb3; clear BOX; have BOX := BOX2; clear BOX2; clear b0 b1 b2 b3 b4 b5 b6; obtain ⟨b0, b1, b2, b3, b4, b5, b6⟩ := BOX.facts)
      | (go_at_call 24; (refine (KF.out _ _ _ _ _ _ _ _ _ (hr1'.al _) (hr2'.al _) (hr3.al _) (hr4.al _)).mono ?_); rintro ee wc ⟨A5, c5, A6, c6, rfl, hc5, hc6, hr5, hr6, hb3⟩; clear hr1' hr2' hr3 hr4; have BOX := Bx3.step (Bx3.new _ (.bool false) (.slice none 0 0) (.slice none 0 0) 47) hb3; obtain ⟨b0, b1, b2, b3, b4, b5, b6⟩ := BOX.facts)
      | (go_at_call 24; (refine (KF.out _ _ _ _ _ _ _ _ _ (hr1') (hr2') (hr3) (hr4)).mono ?_); rintro ee wc ⟨A5, c5, A6, c6, rfl, hc5, hc6, hr5, hr6, hb3⟩; clear hr1' hr2' hr3 hr4))
  all_goals
    rename_i hHeld
    have HF := Lib.hid hHeld.1
    clear hHeld L0 L1 L2 L3 L4 L5 T0 TD hr5 hr6 hc5 hc6
    by_cases hN : N = 0
    · have e1 : nd W N = 0 := (nd_eq_zero W2).2 hN
      have e2 : (((nd W N : Nat) : Int) == 0) = true := by rw [e1]; rfl
      have HR := Lib.hid (show R = 0 by rw [HQ.out, if_pos hN])
      have h2 := HF.out
      rw [e1] at h2
      have HF2 := Lib.hid h2
      clear hN h2 HF
      go_wp2_with fail
      go_ret2
      exact ⟨by rw [HR.out]; rfl, HF2.out⟩
    · have e1 : ¬ nd W N = 0 := fun c => hN ((nd_eq_zero W2).1 c)
      have e2 : (((nd W N : Nat) : Int) == 0) = false := beq_eq_false_iff_ne.2 (by omega)
      have e3 : ¬ ((nd W N : Nat) : Int) = 0 := by omega
      cases hG : G with
      | true =>
        have HR := Lib.hid (show R = -1 by rw [HQ.out, if_neg hN, if_pos hG])
        subst hG
        clear hN
        go_wp2_with fail
        go_ret2
        exact ⟨by rw [HR.out]; rfl, HF.out⟩
      | false =>
        have HR := Lib.hid (show R = 1 by rw [HQ.out, if_neg hN, if_neg (by rw [hG]; exact Bool.false_ne_true)])
        subst hG
        clear hN
        go_wp2_with fail
        go_ret2
        exact ⟨by rw [HR.out]; rfl, HF.out⟩
end Go.Proofs.YtajcapliokblfaaDoor
set_option linter.unusedSimpArgs false
set_option linter.unusedVariables false
namespace Go.Proofs.YtajcapliokblfaaDoor
open Go Go.RowKit Nt

theorem BL.boxZ {w : World} {l : List C3} {W : World} (h : BL w l W) (c : C3) (hi : l[0]? = some c) : w.heap.size < W.heap.size ∧ W.cell? ⟨w.heap.size, 0, none⟩ = some c.1 ∧ W.cell? ⟨w.heap.size, 1, none⟩ = some c.2.1 ∧ W.cell? ⟨w.heap.size, 2, none⟩ = some c.2.2 ∧ W.frozen? ⟨w.heap.size, 0, none⟩ = false ∧ W.frozen? ⟨w.heap.size, 1, none⟩ = false ∧ W.frozen? ⟨w.heap.size, 2, none⟩ = false := h.box 0 c hi
theorem BL.start3 (w : World) (a b c a' b' c' a2 b2 c2 : Value) (T T' T2 : TypeId) : BL w [(a, b, c), (a', b', c'), (a2, b2, c2)] (((w.alloc (.cells #[a, b, c] T)).alloc (.cells #[a', b', c'] T')).alloc (.cells #[a2, b2, c2] T2)) := by
  refine ⟨(((Below.refl _ _).alloc (Nat.le_refl _) _).alloc (by simp) _).alloc (by simp; omega) _, fun i d hi => ?_⟩
  match i, hi with
  | 0, hi => cases hi; exact ((Bx3.new w a b c T).more _).more _
  | 1, hi => cases hi; have := (Bx3.new (w.alloc (.cells #[a, b, c] T)) a' b' c' T').more (.cells #[a2, b2, c2] T2); simpa using this
  | 2, hi => cases hi; have := Bx3.new ((w.alloc (.cells #[a, b, c] T)).alloc (.cells #[a', b', c'] T')) a2 b2 c2 T2; simpa using this
  | n + 3, hi => simp at hi
def Rx.small (r : Rx) : Prop := r.s.size ≤ 300 ∧ r.t.size ≤ 300
@[irreducible] def fewB (s : ByteArray) : Bool := decide (s.size ≤ 300)
@[irreducible] def smB (r : Rx) : Bool := fewB r.s && fewB r.t
theorem fewB_yes {s : ByteArray} (h : s.size ≤ 300) : fewB s = true := by unfold fewB; exact decide_eq_true h
theorem fewB_iff {s : ByteArray} : fewB s = true ↔ s.size ≤ 300 := by unfold fewB; exact decide_eq_true_iff
theorem smB_iff {r : Rx} : smB r = true ↔ r.small := by unfold smB; rw [Bool.and_eq_true, fewB_iff, fewB_iff]; exact Iff.rfl
theorem Pfew_c (s : ByteArray) (w : World) (hs : s.size ≤ 9223372036854775807) : Calls Tryd.prog 27 #[.string s] w fun e w' => e = .returned (.bool (fewB s)) ∧ Below w.heap.size w w' := by
  have e : decide ((s.size : Int) ≤ 300) = fewB s := by unfold fewB; exact decide_eq_decide.2 (by omega)
  generalize fewB s = b at *
  go_enter Tryd.func27, Tryd.ntmps27
  go_wp2
  go_ret
  exact ⟨rfl, Below.refl _ _⟩
set_option maxRecDepth 100000 in
theorem Psmall_c (r : Rx) (w : World) (h1 : r.s.size ≤ 9223372036854775807) (h2 : r.t.size ≤ 9223372036854775807) : Calls Tryd.prog 13 #[.agg #[.bool r.g, .string r.s, .string r.t]] w fun e w' => e = .returned (.bool (smB r)) ∧ Below w.heap.size w w' := by
  have K1 := Lib.hid (fun w => Pfew_c r.s w h1)
  have K2 := Lib.hid (fun w => Pfew_c r.t w h2)
  have T0 := BL.start1 w (.bool r.g) (.string r.s) (.string r.t) 25
  have HB := Lib.hid (show smB r = (fewB r.s && fewB r.t) by unfold smB; rfl)
  clear h1 h2
  generalize fewB r.s = b1 at *
  generalize fewB r.t = b2 at *
  cases b1
  case' false => have HX := Lib.hid (show smB r = false by rw [HB.out]; rfl)
  case' true => have HX := Lib.hid (show smB r = b2 by rw [HB.out]; cases b2 <;> rfl)
  all_goals
    go_enter Tryd.func13, Tryd.ntmps13
    go_wp2_with (first
      | (go_at_call 27; (with_reducible refine (K1.out _).mono ?_); rintro ee w1 ⟨rfl, hb⟩; replace T0 := T0.step hb; clear hb; obtain ⟨p0, p1, p2, p3, p4, p5, p6⟩ := T0.box0)
      | (go_at_call 27; (with_reducible refine (K2.out _).mono ?_); rintro ee w1 ⟨rfl, hb⟩; replace T0 := T0.step hb; clear hb))
    go_ret
    exact ⟨by rw [HX.out]; rfl, T0.1⟩
open Classical in
@[irreducible] noncomputable def mayR (r : Rx) : Bool := decide (∃ q, r.Is q)
open Classical in
theorem mayR_iff {r : Rx} : mayR r = true ↔ ∃ q, r.Is q := by unfold mayR; exact decide_eq_true_iff
theorem PMay_any (r : Rx) (w : World) : Calls Tryd.prog 14 #[.agg #[.bool r.g, .string r.s, .string r.t]] w fun e w' => e = .returned (.bool (mayR r)) ∧ Below w.heap.size w w' := by
  rcases r.cases_ with ⟨q, hq⟩ | hn
  · rw [mayR_iff.2 ⟨q, hq⟩]; exact PMay_x r q w hq
  · have e : mayR r = false := Bool.eq_false_iff.2 (fun c => by obtain ⟨q, hq⟩ := mayR_iff.1 c; exact hn q hq)
    rw [e]; exact PMay_no r w hn
theorem Rx.Is.bytes {r : Rx} {q : Rat} (h : r.Is q) (hs : r.small) : Bq q 300 := by
  obtain ⟨h1, rfl⟩ := h
  have h2 := hs.1
  have h3 := hs.2
  rw [natS_size] at h2 h3
  exact ⟨h2, h3⟩
set_option maxRecDepth 100000 in
set_option maxHeartbeats 1000000 in
theorem Pthree_c (x y z : Rx) (hx : x.s.size ≤ 9223372036854775807 ∧ x.t.size ≤ 9223372036854775807) (hy : y.s.size ≤ 9223372036854775807 ∧ y.t.size ≤ 9223372036854775807) (hz : z.s.size ≤ 9223372036854775807 ∧ z.t.size ≤ 9223372036854775807) :
    ∃ t : Bool, (t = true → (∃ p q r, x.Is p ∧ y.Is q ∧ z.Is r) ∧ x.small ∧ y.small ∧ z.small) ∧ ∀ w, Calls Tryd.prog 7 #[.agg #[.bool x.g, .string x.s, .string x.t], .agg #[.bool y.g, .string y.s, .string y.t], .agg #[.bool z.g, .string z.s, .string z.t]] w fun e w' => e = .returned (.bool t) ∧ Below w.heap.size w w' := by
  have KS1 := Lib.hid (fun w => Psmall_c x w hx.1 hx.2)
  have KS2 := Lib.hid (fun w => Psmall_c y w hy.1 hy.2)
  have KS3 := Lib.hid (fun w => Psmall_c z w hz.1 hz.2)
  have KM1 := Lib.hid (fun w => PMay_any x w)
  have KM2 := Lib.hid (fun w => PMay_any y w)
  have KM3 := Lib.hid (fun w => PMay_any z w)
  cases g0 : smB x with
  | false =>
    refine ⟨false, fun c => absurd c Bool.false_ne_true, fun w => ?_⟩
    rw [g0] at KS1
    clear g0
    have T0 := BL.start3 w (.bool x.g) (.string x.s) (.string x.t) (.bool y.g) (.string y.s) (.string y.t) (.bool z.g) (.string z.s) (.string z.t) 25 25 25
    obtain ⟨bl, hbl⟩ : ∃ bl : List C3, bl = [(.bool x.g, .string x.s, .string x.t), (.bool y.g, .string y.s, .string y.t), (.bool z.g, .string z.s, .string z.t)] := ⟨_, rfl⟩
    rw [← hbl] at T0
    have HBL := Lib.hid hbl
    clear hbl
    go_enter Tryd.func7, Tryd.ntmps7
    go_wp2_with (first
      | (go_at_call 13; (with_reducible refine (KS1.out _).mono ?_); rintro ee w1 ⟨rfl, hb⟩; replace T0 := T0.step hb; clear hb; obtain ⟨p0, p1, p2, p3, p4, p5, p6⟩ := T0.boxZ (.bool x.g, .string x.s, .string x.t) (by rw [HBL.out]; rfl); obtain ⟨q0, q1, q2, q3, q4, q5, q6⟩ := T0.box 1 (.bool y.g, .string y.s, .string y.t) (by rw [HBL.out]; rfl); obtain ⟨r0, r1, r2, r3, r4, r5, r6⟩ := T0.box 2 (.bool z.g, .string z.s, .string z.t) (by rw [HBL.out]; rfl)))
    go_ret
    exact ⟨rfl, T0.1⟩
  | true =>
    cases g1 : smB y with
    | false =>
      refine ⟨false, fun c => absurd c Bool.false_ne_true, fun w => ?_⟩
      rw [g0] at KS1
      rw [g1] at KS2
      clear g0 g1
      have T0 := BL.start3 w (.bool x.g) (.string x.s) (.string x.t) (.bool y.g) (.string y.s) (.string y.t) (.bool z.g) (.string z.s) (.string z.t) 25 25 25
      obtain ⟨bl, hbl⟩ : ∃ bl : List C3, bl = [(.bool x.g, .string x.s, .string x.t), (.bool y.g, .string y.s, .string y.t), (.bool z.g, .string z.s, .string z.t)] := ⟨_, rfl⟩
      rw [← hbl] at T0
      have HBL := Lib.hid hbl
      clear hbl
      go_enter Tryd.func7, Tryd.ntmps7
      go_wp2_with (first
        | (go_at_call 13; (with_reducible refine (KS1.out _).mono ?_); rintro ee w1 ⟨rfl, hb⟩; replace T0 := T0.step hb; clear hb; obtain ⟨p0, p1, p2, p3, p4, p5, p6⟩ := T0.boxZ (.bool x.g, .string x.s, .string x.t) (by rw [HBL.out]; rfl); obtain ⟨q0, q1, q2, q3, q4, q5, q6⟩ := T0.box 1 (.bool y.g, .string y.s, .string y.t) (by rw [HBL.out]; rfl); obtain ⟨r0, r1, r2, r3, r4, r5, r6⟩ := T0.box 2 (.bool z.g, .string z.s, .string z.t) (by rw [HBL.out]; rfl))
        | (go_at_call 13; (with_reducible refine (KS2.out _).mono ?_); rintro ee w1 ⟨rfl, hb⟩; replace T0 := T0.step hb; clear hb; obtain ⟨p0, p1, p2, p3, p4, p5, p6⟩ := T0.boxZ (.bool x.g, .string x.s, .string x.t) (by rw [HBL.out]; rfl); obtain ⟨q0, q1, q2, q3, q4, q5, q6⟩ := T0.box 1 (.bool y.g, .string y.s, .string y.t) (by rw [HBL.out]; rfl); obtain ⟨r0, r1, r2, r3, r4, r5, r6⟩ := T0.box 2 (.bool z.g, .string z.s, .string z.t) (by rw [HBL.out]; rfl)))
      go_ret
      exact ⟨rfl, T0.1⟩
    | true =>
      cases g2 : smB z with
      | false =>
        refine ⟨false, fun c => absurd c Bool.false_ne_true, fun w => ?_⟩
        rw [g0] at KS1
        rw [g1] at KS2
        rw [g2] at KS3
        clear g0 g1 g2
        have T0 := BL.start3 w (.bool x.g) (.string x.s) (.string x.t) (.bool y.g) (.string y.s) (.string y.t) (.bool z.g) (.string z.s) (.string z.t) 25 25 25
        obtain ⟨bl, hbl⟩ : ∃ bl : List C3, bl = [(.bool x.g, .string x.s, .string x.t), (.bool y.g, .string y.s, .string y.t), (.bool z.g, .string z.s, .string z.t)] := ⟨_, rfl⟩
        rw [← hbl] at T0
        have HBL := Lib.hid hbl
        clear hbl
        go_enter Tryd.func7, Tryd.ntmps7
        go_wp2_with (first
          | (go_at_call 13; (with_reducible refine (KS1.out _).mono ?_); rintro ee w1 ⟨rfl, hb⟩; replace T0 := T0.step hb; clear hb; obtain ⟨p0, p1, p2, p3, p4, p5, p6⟩ := T0.boxZ (.bool x.g, .string x.s, .string x.t) (by rw [HBL.out]; rfl); obtain ⟨q0, q1, q2, q3, q4, q5, q6⟩ := T0.box 1 (.bool y.g, .string y.s, .string y.t) (by rw [HBL.out]; rfl); obtain ⟨r0, r1, r2, r3, r4, r5, r6⟩ := T0.box 2 (.bool z.g, .string z.s, .string z.t) (by rw [HBL.out]; rfl))
          | (go_at_call 13; (with_reducible refine (KS2.out _).mono ?_); rintro ee w1 ⟨rfl, hb⟩; replace T0 := T0.step hb; clear hb; obtain ⟨p0, p1, p2, p3, p4, p5, p6⟩ := T0.boxZ (.bool x.g, .string x.s, .string x.t) (by rw [HBL.out]; rfl); obtain ⟨q0, q1, q2, q3, q4, q5, q6⟩ := T0.box 1 (.bool y.g, .string y.s, .string y.t) (by rw [HBL.out]; rfl); obtain ⟨r0, r1, r2, r3, r4, r5, r6⟩ := T0.box 2 (.bool z.g, .string z.s, .string z.t) (by rw [HBL.out]; rfl))
          | (go_at_call 13; (with_reducible refine (KS3.out _).mono ?_); rintro ee w1 ⟨rfl, hb⟩; replace T0 := T0.step hb; clear hb; obtain ⟨p0, p1, p2, p3, p4, p5, p6⟩ := T0.boxZ (.bool x.g, .string x.s, .string x.t) (by rw [HBL.out]; rfl); obtain ⟨q0, q1, q2, q3, q4, q5, q6⟩ := T0.box 1 (.bool y.g, .string y.s, .string y.t) (by rw [HBL.out]; rfl); obtain ⟨r0, r1, r2, r3, r4, r5, r6⟩ := T0.box 2 (.bool z.g, .string z.s, .string z.t) (by rw [HBL.out]; rfl)))
        go_ret
        exact ⟨rfl, T0.1⟩
      | true =>
        cases g3 : mayR x with
        | false =>
          refine ⟨false, fun c => absurd c Bool.false_ne_true, fun w => ?_⟩
          rw [g0] at KS1
          rw [g1] at KS2
          rw [g2] at KS3
          rw [g3] at KM1
          clear g0 g1 g2 g3
          have T0 := BL.start3 w (.bool x.g) (.string x.s) (.string x.t) (.bool y.g) (.string y.s) (.string y.t) (.bool z.g) (.string z.s) (.string z.t) 25 25 25
          obtain ⟨bl, hbl⟩ : ∃ bl : List C3, bl = [(.bool x.g, .string x.s, .string x.t), (.bool y.g, .string y.s, .string y.t), (.bool z.g, .string z.s, .string z.t)] := ⟨_, rfl⟩
          rw [← hbl] at T0
          have HBL := Lib.hid hbl
          clear hbl
          go_enter Tryd.func7, Tryd.ntmps7
          go_wp2_with (first
            | (go_at_call 13; (with_reducible refine (KS1.out _).mono ?_); rintro ee w1 ⟨rfl, hb⟩; replace T0 := T0.step hb; clear hb; obtain ⟨p0, p1, p2, p3, p4, p5, p6⟩ := T0.boxZ (.bool x.g, .string x.s, .string x.t) (by rw [HBL.out]; rfl); obtain ⟨q0, q1, q2, q3, q4, q5, q6⟩ := T0.box 1 (.bool y.g, .string y.s, .string y.t) (by rw [HBL.out]; rfl); obtain ⟨r0, r1, r2, r3, r4, r5, r6⟩ := T0.box 2 (.bool z.g, .string z.s, .string z.t) (by rw [HBL.out]; rfl))
            | (go_at_call 13; (with_reducible refine (KS2.out _).mono ?_); rintro ee w1 ⟨rfl, hb⟩; replace T0 := T0.step hb; clear hb; obtain ⟨p0, p1, p2, p3, p4, p5, p6⟩ := T0.boxZ (.bool x.g, .string x.s, .string x.t) (by rw [HBL.out]; rfl); obtain ⟨q0, q1, q2, q3, q4, q5, q6⟩ := T0.box 1 (.bool y.g, .string y.s, .string y.t) (by rw [HBL.out]; rfl); obtain ⟨r0, r1, r2, r3, r4, r5, r6⟩ := T0.box 2 (.bool z.g, .string z.s, .string z.t) (by rw [HBL.out]; rfl))
            | (go_at_call 13; (with_reducible refine (KS3.out _).mono ?_); rintro ee w1 ⟨rfl, hb⟩; replace T0 := T0.step hb; clear hb; obtain ⟨p0, p1, p2, p3, p4, p5, p6⟩ := T0.boxZ (.bool x.g, .string x.s, .string x.t) (by rw [HBL.out]; rfl); obtain ⟨q0, q1, q2, q3, q4, q5, q6⟩ := T0.box 1 (.bool y.g, .string y.s, .string y.t) (by rw [HBL.out]; rfl); obtain ⟨r0, r1, r2, r3, r4, r5, r6⟩ := T0.box 2 (.bool z.g, .string z.s, .string z.t) (by rw [HBL.out]; rfl))
            | (go_at_call 14; (with_reducible refine (KM1.out _).mono ?_); rintro ee w1 ⟨rfl, hb⟩; replace T0 := T0.step hb; clear hb; obtain ⟨p0, p1, p2, p3, p4, p5, p6⟩ := T0.boxZ (.bool x.g, .string x.s, .string x.t) (by rw [HBL.out]; rfl); obtain ⟨q0, q1, q2, q3, q4, q5, q6⟩ := T0.box 1 (.bool y.g, .string y.s, .string y.t) (by rw [HBL.out]; rfl); obtain ⟨r0, r1, r2, r3, r4, r5, r6⟩ := T0.box 2 (.bool z.g, .string z.s, .string z.t) (by rw [HBL.out]; rfl)))
          go_ret
          exact ⟨rfl, T0.1⟩
        | true =>
          cases g4 : mayR y with
          | false =>
            refine ⟨false, fun c => absurd c Bool.false_ne_true, fun w => ?_⟩
            rw [g0] at KS1
            rw [g1] at KS2
            rw [g2] at KS3
            rw [g3] at KM1
            rw [g4] at KM2
            clear g0 g1 g2 g3 g4
            have T0 := BL.start3 w (.bool x.g) (.string x.s) (.string x.t) (.bool y.g) (.string y.s) (.string y.t) (.bool z.g) (.string z.s) (.string z.t) 25 25 25
            obtain ⟨bl, hbl⟩ : ∃ bl : List C3, bl = [(.bool x.g, .string x.s, .string x.t), (.bool y.g, .string y.s, .string y.t), (.bool z.g, .string z.s, .string z.t)] := ⟨_, rfl⟩
            rw [← hbl] at T0
            have HBL := Lib.hid hbl
            clear hbl
            go_enter Tryd.func7, Tryd.ntmps7
            go_wp2_with (first
              | (go_at_call 13; (with_reducible refine (KS1.out _).mono ?_); rintro ee w1 ⟨rfl, hb⟩; replace T0 := T0.step hb; clear hb; obtain ⟨p0, p1, p2, p3, p4, p5, p6⟩ := T0.boxZ (.bool x.g, .string x.s, .string x.t) (by rw [HBL.out]; rfl); obtain ⟨q0, q1, q2, q3, q4, q5, q6⟩ := T0.box 1 (.bool y.g, .string y.s, .string y.t) (by rw [HBL.out]; rfl); obtain ⟨r0, r1, r2, r3, r4, r5, r6⟩ := T0.box 2 (.bool z.g, .string z.s, .string z.t) (by rw [HBL.out]; rfl))
              | (go_at_call 13; (with_reducible refine (KS2.out _).mono ?_); rintro ee w1 ⟨rfl, hb⟩; replace T0 := T0.step hb; clear hb; obtain ⟨p0, p1, p2, p3, p4, p5, p6⟩ := T0.boxZ (.bool x.g, .string x.s, .string x.t) (by rw [HBL.out]; rfl); obtain ⟨q0, q1, q2, q3, q4, q5, q6⟩ := T0.box 1 (.bool y.g, .string y.s, .string y.t) (by rw [HBL.out]; rfl); obtain ⟨r0, r1, r2, r3, r4, r5, r6⟩ := T0.box 2 (.bool z.g, .string z.s, .string z.t) (by rw [HBL.out]; rfl))
              | (go_at_call 13; (with_reducible refine (KS3.out _).mono ?_); rintro ee w1 ⟨rfl, hb⟩; replace T0 := T0.step hb; clear hb; obtain ⟨p0, p1, p2, p3, p4, p5, p6⟩ := T0.boxZ (.bool x.g, .string x.s, .string x.t) (by rw [HBL.out]; rfl); obtain ⟨q0, q1, q2, q3, q4, q5, q6⟩ := T0.box 1 (.bool y.g, .string y.s, .string y.t) (by rw [HBL.out]; rfl); obtain ⟨r0, r1, r2, r3, r4, r5, r6⟩ := T0.box 2 (.bool z.g, .string z.s, .string z.t) (by rw [HBL.out]; rfl))
              | (go_at_call 14; (with_reducible refine (KM1.out _).mono ?_); rintro ee w1 ⟨rfl, hb⟩; replace T0 := T0.step hb; clear hb; obtain ⟨p0, p1, p2, p3, p4, p5, p6⟩ := T0.boxZ (.bool x.g, .string x.s, .string x.t) (by rw [HBL.out]; rfl); obtain ⟨q0, q1, q2, q3, q4, q5, q6⟩ := T0.box 1 (.bool y.g, .string y.s, .string y.t) (by rw [HBL.out]; rfl); obtain ⟨r0, r1, r2, r3, r4, r5, r6⟩ := T0.box 2 (.bool z.g, .string z.s, .string z.t) (by rw [HBL.out]; rfl))
              | (go_at_call 14; (with_reducible refine (KM2.out _).mono ?_); rintro ee w1 ⟨rfl, hb⟩; replace T0 := T0.step hb; clear hb; obtain ⟨p0, p1, p2, p3, p4, p5, p6⟩ := T0.boxZ (.bool x.g, .string x.s, .string x.t) (by rw [HBL.out]; rfl); obtain ⟨q0, q1, q2, q3, q4, q5, q6⟩ := T0.box 1 (.bool y.g, .string y.s, .string y.t) (by rw [HBL.out]; rfl); obtain ⟨r0, r1, r2, r3, r4, r5, r6⟩ := T0.box 2 (.bool z.g, .string z.s, .string z.t) (by rw [HBL.out]; rfl)))
            go_ret
            exact ⟨rfl, T0.1⟩
          | true =>
            cases g5 : mayR z with
            | false =>
              refine ⟨false, fun c => absurd c Bool.false_ne_true, fun w => ?_⟩
              rw [g0] at KS1
              rw [g1] at KS2
              rw [g2] at KS3
              rw [g3] at KM1
              rw [g4] at KM2
              rw [g5] at KM3
              clear g0 g1 g2 g3 g4 g5
              have T0 := BL.start3 w (.bool x.g) (.string x.s) (.string x.t) (.bool y.g) (.string y.s) (.string y.t) (.bool z.g) (.string z.s) (.string z.t) 25 25 25
              obtain ⟨bl, hbl⟩ : ∃ bl : List C3, bl = [(.bool x.g, .string x.s, .string x.t), (.bool y.g, .string y.s, .string y.t), (.bool z.g, .string z.s, .string z.t)] := ⟨_, rfl⟩
              rw [← hbl] at T0
              have HBL := Lib.hid hbl
              clear hbl
              go_enter Tryd.func7, Tryd.ntmps7
              go_wp2_with (first
                | (go_at_call 13; (with_reducible refine (KS1.out _).mono ?_); rintro ee w1 ⟨rfl, hb⟩; replace T0 := T0.step hb; clear hb; obtain ⟨p0, p1, p2, p3, p4, p5, p6⟩ := T0.boxZ (.bool x.g, .string x.s, .string x.t) (by rw [HBL.out]; rfl); obtain ⟨q0, q1, q2, q3, q4, q5, q6⟩ := T0.box 1 (.bool y.g, .string y.s, .string y.t) (by rw [HBL.out]; rfl); obtain ⟨r0, r1, r2, r3, r4, r5, r6⟩ := T0.box 2 (.bool z.g, .string z.s, .string z.t) (by rw [HBL.out]; rfl))
                | (go_at_call 13; (with_reducible refine (KS2.out _).mono ?_); rintro ee w1 ⟨rfl, hb⟩; replace T0 := T0.step hb; clear hb; obtain ⟨p0, p1, p2, p3, p4, p5, p6⟩ := T0.boxZ (.bool x.g, .string x.s, .string x.t) (by rw [HBL.out]; rfl); obtain ⟨q0, q1, q2, q3, q4, q5, q6⟩ := T0.box 1 (.bool y.g, .string y.s, .string y.t) (by rw [HBL.out]; rfl); obtain ⟨r0, r1, r2, r3, r4, r5, r6⟩ := T0.box 2 (.bool z.g, .string z.s, .string z.t) (by rw [HBL.out]; rfl))
                | (go_at_call 13; (with_reducible refine (KS3.out _).mono ?_); rintro ee w1 ⟨rfl, hb⟩; replace T0 := T0.step hb; clear hb; obtain ⟨p0, p1, p2, p3, p4, p5, p6⟩ := T0.boxZ (.bool x.g, .string x.s, .string x.t) (by rw [HBL.out]; rfl); obtain ⟨q0, q1, q2, q3, q4, q5, q6⟩ := T0.box 1 (.bool y.g, .string y.s, .string y.t) (by rw [HBL.out]; rfl); obtain ⟨r0, r1, r2, r3, r4, r5, r6⟩ := T0.box 2 (.bool z.g, .string z.s, .string z.t) (by rw [HBL.out]; rfl))
                | (go_at_call 14; (with_reducible refine (KM1.out _).mono ?_); rintro ee w1 ⟨rfl, hb⟩; replace T0 := T0.step hb; clear hb; obtain ⟨p0, p1, p2, p3, p4, p5, p6⟩ := T0.boxZ (.bool x.g, .string x.s, .string x.t) (by rw [HBL.out]; rfl); obtain ⟨q0, q1, q2, q3, q4, q5, q6⟩ := T0.box 1 (.bool y.g, .string y.s, .string y.t) (by rw [HBL.out]; rfl); obtain ⟨r0, r1, r2, r3, r4, r5, r6⟩ := T0.box 2 (.bool z.g, .string z.s, .string z.t) (by rw [HBL.out]; rfl))
                | (go_at_call 14; (with_reducible refine (KM2.out _).mono ?_); rintro ee w1 ⟨rfl, hb⟩; replace T0 := T0.step hb; clear hb; obtain ⟨p0, p1, p2, p3, p4, p5, p6⟩ := T0.boxZ (.bool x.g, .string x.s, .string x.t) (by rw [HBL.out]; rfl); obtain ⟨q0, q1, q2, q3, q4, q5, q6⟩ := T0.box 1 (.bool y.g, .string y.s, .string y.t) (by rw [HBL.out]; rfl); obtain ⟨r0, r1, r2, r3, r4, r5, r6⟩ := T0.box 2 (.bool z.g, .string z.s, .string z.t) (by rw [HBL.out]; rfl))
                | (go_at_call 14; (with_reducible refine (KM3.out _).mono ?_); rintro ee w1 ⟨rfl, hb⟩; replace T0 := T0.step hb; clear hb; obtain ⟨p0, p1, p2, p3, p4, p5, p6⟩ := T0.boxZ (.bool x.g, .string x.s, .string x.t) (by rw [HBL.out]; rfl); obtain ⟨q0, q1, q2, q3, q4, q5, q6⟩ := T0.box 1 (.bool y.g, .string y.s, .string y.t) (by rw [HBL.out]; rfl); obtain ⟨r0, r1, r2, r3, r4, r5, r6⟩ := T0.box 2 (.bool z.g, .string z.s, .string z.t) (by rw [HBL.out]; rfl)))
              go_ret
              exact ⟨rfl, T0.1⟩
            | true =>
              have s1 := smB_iff.1 g0
              have s2 := smB_iff.1 g1
              have s3 := smB_iff.1 g2
              refine ⟨decide ((x.s.size : Int) + y.s.size + z.s.size + x.t.size + y.t.size + z.t.size < 2000), fun _ => ⟨⟨(mayR_iff.1 g3).choose, (mayR_iff.1 g4).choose, (mayR_iff.1 g5).choose, (mayR_iff.1 g3).choose_spec, (mayR_iff.1 g4).choose_spec, (mayR_iff.1 g5).choose_spec⟩, s1, s2, s3⟩, fun w => ?_⟩
              obtain ⟨u1, v1⟩ := s1
              obtain ⟨u2, v2⟩ := s2
              obtain ⟨u3, v3⟩ := s3
              rw [g0] at KS1
              rw [g1] at KS2
              rw [g2] at KS3
              rw [g3] at KM1
              rw [g4] at KM2
              rw [g5] at KM3
              clear g0 g1 g2 g3 g4 g5
              have T0 := BL.start3 w (.bool x.g) (.string x.s) (.string x.t) (.bool y.g) (.string y.s) (.string y.t) (.bool z.g) (.string z.s) (.string z.t) 25 25 25
              obtain ⟨bl, hbl⟩ : ∃ bl : List C3, bl = [(.bool x.g, .string x.s, .string x.t), (.bool y.g, .string y.s, .string y.t), (.bool z.g, .string z.s, .string z.t)] := ⟨_, rfl⟩
              rw [← hbl] at T0
              have HBL := Lib.hid hbl
              clear hbl
              go_enter Tryd.func7, Tryd.ntmps7
              go_wp2_with (first
                | (go_at_call 13; (with_reducible refine (KS1.out _).mono ?_); rintro ee w1 ⟨rfl, hb⟩; replace T0 := T0.step hb; clear hb; obtain ⟨p0, p1, p2, p3, p4, p5, p6⟩ := T0.boxZ (.bool x.g, .string x.s, .string x.t) (by rw [HBL.out]; rfl); obtain ⟨q0, q1, q2, q3, q4, q5, q6⟩ := T0.box 1 (.bool y.g, .string y.s, .string y.t) (by rw [HBL.out]; rfl); obtain ⟨r0, r1, r2, r3, r4, r5, r6⟩ := T0.box 2 (.bool z.g, .string z.s, .string z.t) (by rw [HBL.out]; rfl))
                | (go_at_call 13; (with_reducible refine (KS2.out _).mono ?_); rintro ee w1 ⟨rfl, hb⟩; replace T0 := T0.step hb; clear hb; obtain ⟨p0, p1, p2, p3, p4, p5, p6⟩ := T0.boxZ (.bool x.g, .string x.s, .string x.t) (by rw [HBL.out]; rfl); obtain ⟨q0, q1, q2, q3, q4, q5, q6⟩ := T0.box 1 (.bool y.g, .string y.s, .string y.t) (by rw [HBL.out]; rfl); obtain ⟨r0, r1, r2, r3, r4, r5, r6⟩ := T0.box 2 (.bool z.g, .string z.s, .string z.t) (by rw [HBL.out]; rfl))
                | (go_at_call 13; (with_reducible refine (KS3.out _).mono ?_); rintro ee w1 ⟨rfl, hb⟩; replace T0 := T0.step hb; clear hb; obtain ⟨p0, p1, p2, p3, p4, p5, p6⟩ := T0.boxZ (.bool x.g, .string x.s, .string x.t) (by rw [HBL.out]; rfl); obtain ⟨q0, q1, q2, q3, q4, q5, q6⟩ := T0.box 1 (.bool y.g, .string y.s, .string y.t) (by rw [HBL.out]; rfl); obtain ⟨r0, r1, r2, r3, r4, r5, r6⟩ := T0.box 2 (.bool z.g, .string z.s, .string z.t) (by rw [HBL.out]; rfl))
                | (go_at_call 14; (with_reducible refine (KM1.out _).mono ?_); rintro ee w1 ⟨rfl, hb⟩; replace T0 := T0.step hb; clear hb; obtain ⟨p0, p1, p2, p3, p4, p5, p6⟩ := T0.boxZ (.bool x.g, .string x.s, .string x.t) (by rw [HBL.out]; rfl); obtain ⟨q0, q1, q2, q3, q4, q5, q6⟩ := T0.box 1 (.bool y.g, .string y.s, .string y.t) (by rw [HBL.out]; rfl); obtain ⟨r0, r1, r2, r3, r4, r5, r6⟩ := T0.box 2 (.bool z.g, .string z.s, .string z.t) (by rw [HBL.out]; rfl))
                | (go_at_call 14; (with_reducible refine (KM2.out _).mono ?_); rintro ee w1 ⟨rfl, hb⟩; replace T0 := T0.step hb; clear hb; obtain ⟨p0, p1, p2, p3, p4, p5, p6⟩ := T0.boxZ (.bool x.g, .string x.s, .string x.t) (by rw [HBL.out]; rfl); obtain ⟨q0, q1, q2, q3, q4, q5, q6⟩ := T0.box 1 (.bool y.g, .string y.s, .string y.t) (by rw [HBL.out]; rfl); obtain ⟨r0, r1, r2, r3, r4, r5, r6⟩ := T0.box 2 (.bool z.g, .string z.s, .string z.t) (by rw [HBL.out]; rfl))
                | (go_at_call 14; (with_reducible refine (KM3.out _).mono ?_); rintro ee w1 ⟨rfl, hb⟩; replace T0 := T0.step hb; clear hb; obtain ⟨p0, p1, p2, p3, p4, p5, p6⟩ := T0.boxZ (.bool x.g, .string x.s, .string x.t) (by rw [HBL.out]; rfl); obtain ⟨q0, q1, q2, q3, q4, q5, q6⟩ := T0.box 1 (.bool y.g, .string y.s, .string y.t) (by rw [HBL.out]; rfl); obtain ⟨r0, r1, r2, r3, r4, r5, r6⟩ := T0.box 2 (.bool z.g, .string z.s, .string z.t) (by rw [HBL.out]; rfl)))
              go_ret
              exact ⟨rfl, T0.1⟩
end Go.Proofs.YtajcapliokblfaaDoor
set_option linter.unusedVariables false
set_option linter.unusedSimpArgs false
namespace Go.Proofs.YtajcapliokblfaaDoor
open Go Go.RowKit Nt

@[reducible] def lives4_c_f : FuncId := 6
@[reducible] def lives4_c_a : List AV := []
@[reducible] noncomputable def lives4_c_k : Know := ⟨[],
  [(35, [.lit (.agg #[.bool false, .bool false, .string ⟨#[48, 49]⟩, .string ⟨#[]⟩, .int .i64 1])], .lit (.tuple #[.agg #[.bool false, .string ⟨#[1]⟩, .string ⟨#[10]⟩], .int .i64 0]))]⟩
theorem lives4_c_r1 : @comes lives4_c_k Tryd.prog glT 6000 lives4_c_f lives4_c_a = some (.lit (.bool true)) := by kernel_rfl
set_option maxRecDepth 100000 in
set_option maxHeartbeats 4000000 in
theorem lives4_c (w : World) (hG : Globs glT w) : Calls Tryd.prog 6 #[] w fun e w' => e = .returned (.bool true) ∧ Below w.heap.size w w' := by
  letI : Env := mkEnv glT [] rfl
  have hops : OpsT Tryd.prog (@Know.ops lives4_c_k) := trivial
  have hcalls : CallsT Tryd.prog (@Know.calls lives4_c_k) := ⟨callt rfl rfl fun w hG => PValue_01 w,
    trivial⟩
  have fin : ∀ v, @comes lives4_c_k Tryd.prog glT 6000 lives4_c_f lives4_c_a = some v → ground v = true → Ending.returned (gval v) = .returned (.bool true) → Calls Tryd.prog 6 #[] w fun e w' => e = .returned (.bool true) ∧ Below w.heap.size w w' := fun v h1 h2 h3 => (@sym_ok _ lives4_c_k _ (@KnowOk.of _ lives4_c_k _ hops hcalls) (by kernel_rfl) _ _ _ _ h1 rfl h2 _ hG).mono fun e w' h => ⟨h.1.trans h3, h.2⟩
  clear hops hcalls
  exact fin _ (lives4_c_r1) rfl rfl
end Go.Proofs.YtajcapliokblfaaDoor
set_option linter.unusedVariables false
set_option linter.unusedSimpArgs false
namespace Go.Proofs.YtajcapliokblfaaDoor
open Go Go.RowKit Nt

/-- A rational number as a Ratio. -/
@[reducible] noncomputable def qr (x : Rat) : Rx := ⟨qG x, natS (qN x), natS (qD x)⟩
theorem str_injP {s t : ByteArray} (h : s.toList = t.toList) : s = t := by
  rw [ba_toList, ba_toList] at h
  obtain ⟨a⟩ := s
  obtain ⟨b⟩ := t
  exact congrArg _ (Array.toList_inj.1 h)
set_option maxRecDepth 100000 in
set_option maxHeartbeats 1000000 in
theorem optR_eql_i [Env] {A B : AV} {a b : Rx} {c : Bool} (ha : gval A = .agg #[.bool a.g, .string a.s, .string a.t]) (hb : gval B = .agg #[.bool b.g, .string b.s, .string b.t]) (h : c = true ↔ a = b) : OpT Tryd.prog [0, 11, 25] [A, B] (.lit (.bool c)) :=
  opt_bin (op := .eql) (r := .lit (.bool c)) rfl fun p q w => by
    rw [ha, hb]
    show _ = Result.ok (Value.bool c) w
    obtain ⟨g, s, t⟩ := a
    obtain ⟨g2, s2, t2⟩ := b
    simp only [Rx.mk.injEq] at h
    by_cases h1 : g = g2 <;> by_cases h2 : s.toList = s2.toList <;> by_cases h3 : t.toList = t2.toList
    · rw [h.2 ⟨h1, str_injP h2, str_injP h3⟩]
      subst h1
      go_simp
      try simp [h2, h3]
    all_goals
      rw [show c = false from Bool.eq_false_iff.2 (fun k => by
        obtain ⟨e1, e2, e3⟩ := h.1 k
        first | exact h1 e1 | exact h2 (congrArg _ e2) | exact h3 (congrArg _ e3))]
      go_simp
      try simp [h1, h2, h3]
set_option maxRecDepth 100000 in
set_option maxHeartbeats 1000000 in
theorem optR_neq_i [Env] {A B : AV} {a b : Rx} {c : Bool} (ha : gval A = .agg #[.bool a.g, .string a.s, .string a.t]) (hb : gval B = .agg #[.bool b.g, .string b.s, .string b.t]) (h : c = true ↔ a = b) : OpT Tryd.prog [0, 12, 25] [A, B] (.lit (.bool (!c))) :=
  opt_bin (op := .neq) (r := .lit (.bool (!c))) rfl fun p q w => by
    rw [ha, hb]
    show _ = Result.ok (Value.bool (!c)) w
    obtain ⟨g, s, t⟩ := a
    obtain ⟨g2, s2, t2⟩ := b
    simp only [Rx.mk.injEq] at h
    by_cases h1 : g = g2 <;> by_cases h2 : s.toList = s2.toList <;> by_cases h3 : t.toList = t2.toList
    · rw [h.2 ⟨h1, str_injP h2, str_injP h3⟩]
      subst h1
      go_simp
      try simp [h2, h3]
    all_goals
      rw [show c = false from Bool.eq_false_iff.2 (fun k => by
        obtain ⟨e1, e2, e3⟩ := h.1 k
        first | exact h1 e1 | exact h2 (congrArg _ e2) | exact h3 (congrArg _ e3))]
      go_simp
      try simp [h1, h2, h3]
set_option maxRecDepth 100000 in
theorem optS_eql_i [Env] {A B : AV} {s t : ByteArray} {c : Bool} (ha : gval A = .string s) (hb : gval B = .string t) (h : c = true ↔ s = t) : OpT Tryd.prog [0, 11, 23] [A, B] (.lit (.bool c)) :=
  opt_bin (op := .eql) (r := .lit (.bool c)) rfl fun p q w => by
    rw [ha, hb]
    show _ = Result.ok (Value.bool c) w
    by_cases h2 : s.toList = t.toList
    · rw [h.2 (str_injP h2)]
      go_simp
      try simp [h2]
    · rw [show c = false from Bool.eq_false_iff.2 (fun k => h2 (congrArg _ (h.1 k)))]
      go_simp
      try simp [h2]
set_option maxRecDepth 100000 in
theorem optS_neq_i [Env] {A B : AV} {s t : ByteArray} {c : Bool} (ha : gval A = .string s) (hb : gval B = .string t) (h : c = true ↔ s = t) : OpT Tryd.prog [0, 12, 23] [A, B] (.lit (.bool (!c))) :=
  opt_bin (op := .neq) (r := .lit (.bool (!c))) rfl fun p q w => by
    rw [ha, hb]
    show _ = Result.ok (Value.bool (!c)) w
    by_cases h2 : s.toList = t.toList
    · rw [h.2 (str_injP h2)]
      go_simp
      try simp [h2]
    · rw [show c = false from Bool.eq_false_iff.2 (fun k => h2 (congrArg _ (h.1 k)))]
      go_simp
      try simp [h2]

set_option maxRecDepth 100000 in
theorem optB_eql_i [Env] {A B : AV} {s t : Bool} {c : Bool} (ha : gval A = .bool s) (hb : gval B = .bool t) (h : c = true ↔ s = t) : OpT Tryd.prog [0, 11, 4] [A, B] (.lit (.bool c)) :=
  opt_bin (op := .eql) (r := .lit (.bool c)) rfl fun p q w => by
    rw [ha, hb]
    show _ = Result.ok (Value.bool c) w
    have e : c = (s == t) := by cases c <;> cases s <;> cases t <;> simp_all
    rw [e]
    cases s <;> cases t <;> go_simp

theorem QAdd (x y z : Rat) (e : x + y = z) (hx : qfits x) (hy : qfits y) (hz : qfits z) (w : World) : Calls Tryd.prog 8 #[qv x, qv y] w fun e w' => e = .returned (.tuple #[qv z, .int .i64 0]) ∧ Below w.heap.size w w' := by
  have h := PAdd_c x y w hx hy
  rw [e] at h
  obtain ⟨r1, r2, r3, r4⟩ := rs_ok hz
  unfold LwPost at h
  rw [r1, r2, r3, r4] at h
  exact h

theorem QSub (x y z : Rat) (e : x - y = z) (hx : qfits x) (hy : qfits y) (hz : qfits z) (w : World) : Calls Tryd.prog 10 #[qv x, qv y] w fun e w' => e = .returned (.tuple #[qv z, .int .i64 0]) ∧ Below w.heap.size w w' := by
  have h := PSub_c x y w hx hy
  rw [e] at h
  obtain ⟨r1, r2, r3, r4⟩ := rs_ok hz
  unfold LwPost at h
  rw [r1, r2, r3, r4] at h
  exact h

theorem QMul (x y z : Rat) (e : x * y = z) (hx : qfits x) (hy : qfits y) (hz : qfits z) (w : World) : Calls Tryd.prog 9 #[qv x, qv y] w fun e w' => e = .returned (.tuple #[qv z, .int .i64 0]) ∧ Below w.heap.size w w' := by
  have h := PMul_c x y w hx hy
  rw [e] at h
  obtain ⟨r1, r2, r3, r4⟩ := rs_ok hz
  unfold LwPost at h
  rw [r1, r2, r3, r4] at h
  exact h

theorem QQuo (x y z : Rat) (e : x / y = z) (hx : qfits x) (hy : qfits y) (h0 : qN y ≠ 0) (hz : qfits z) (w : World) : Calls Tryd.prog 11 #[qv x, qv y] w fun e w' => e = .returned (.tuple #[qv z, .int .i64 0]) ∧ Below w.heap.size w w' := by
  have h := PQuo_c x y w hx hy h0
  rw [e] at h
  obtain ⟨r1, r2, r3, r4⟩ := rs_ok hz
  unfold LwPost at h
  rw [r1, r2, r3, r4] at h
  exact h
theorem Bq.fits {q : Rat} {k : Nat} (h : Bq q k) (hk : k ≤ 16384) : qfits q := ⟨Nat.le_trans h.1 hk, Nat.le_trans h.2 hk⟩
theorem nul_nat {n : Nat} : natS n = ⟨#[]⟩ ↔ n = 0 := by
  constructor
  · intro h; exact natS_inj (by rw [h, natS_zero])
  · intro h; rw [h, natS_zero]

end Go.Proofs.YtajcapliokblfaaDoor
set_option linter.unusedVariables false
set_option linter.unusedSimpArgs false
namespace Go.Proofs.YtajcapliokblfaaDoor
open Go Go.RowKit Nt

@[reducible] def RatioField_n0_f : FuncId := 4
@[reducible] def RatioField_n0_a : List AV := [.agg [.sym 0, .sym 1, .sym 2], .agg [.sym 3, .sym 4, .sym 5], .agg [.sym 6, .sym 7, .sym 8]]
@[reducible] noncomputable def RatioField_n0_k (b2 b3 b4 b5 b6 : Bool) : Know := ⟨[([0, 12, 25], [.agg [.sym 9, .sym 10, .sym 11], .agg [.sym 12, .sym 13, .sym 14]], .lit (.bool false)),
  ([0, 12, 25], [.agg [.sym 18, .sym 19, .sym 20], .agg [.sym 21, .sym 22, .sym 23]], .lit (.bool false)),
  ([0, 12, 25], [.agg [.sym 30, .sym 31, .sym 32], .agg [.sym 33, .sym 34, .sym 35]], .lit (.bool false)),
  ([0, 12, 25], [.agg [.sym 36, .sym 37, .sym 38], .agg [.sym 39, .sym 40, .sym 41]], .lit (.bool false)),
  ([0, 12, 25], [.agg [.sym 42, .sym 43, .sym 44], .agg [.sym 0, .sym 1, .sym 2]], .lit (.bool false)),
  ([0, 12, 23], [.sym 4, .lit (.string ⟨#[]⟩)], .lit (.bool false)),
  ([0, 13, 3], [.sym 48, .lit (.int .i64 0)], .lit (.bool b2)),
  ([0, 11, 4], [.lit (.bool true), .sym 45], .lit (.bool b3)),
  ([0, 11, 3], [.sym 48, .lit (.int .i64 0)], .lit (.bool b4)),
  ([0, 11, 23], [.sym 46, .lit (.string ⟨#[]⟩)], .lit (.bool b5)),
  ([0, 11, 4], [.lit (.bool false), .sym 45], .lit (.bool b6))],
  [(7, [.agg [.sym 0, .sym 1, .sym 2], .agg [.sym 3, .sym 4, .sym 5], .agg [.sym 6, .sym 7, .sym 8]], .lit (.bool true)),
  (8, [.agg [.sym 0, .sym 1, .sym 2], .agg [.sym 3, .sym 4, .sym 5]], .tup [.agg [.sym 9, .sym 10, .sym 11], .lit (.int .i64 0)]),
  (8, [.agg [.sym 3, .sym 4, .sym 5], .agg [.sym 0, .sym 1, .sym 2]], .tup [.agg [.sym 12, .sym 13, .sym 14], .lit (.int .i64 0)]),
  (8, [.agg [.sym 3, .sym 4, .sym 5], .agg [.sym 6, .sym 7, .sym 8]], .tup [.agg [.sym 15, .sym 16, .sym 17], .lit (.int .i64 0)]),
  (8, [.agg [.sym 9, .sym 10, .sym 11], .agg [.sym 6, .sym 7, .sym 8]], .tup [.agg [.sym 18, .sym 19, .sym 20], .lit (.int .i64 0)]),
  (8, [.agg [.sym 0, .sym 1, .sym 2], .agg [.sym 15, .sym 16, .sym 17]], .tup [.agg [.sym 21, .sym 22, .sym 23], .lit (.int .i64 0)]),
  (9, [.agg [.sym 0, .sym 1, .sym 2], .agg [.sym 3, .sym 4, .sym 5]], .tup [.agg [.sym 24, .sym 25, .sym 26], .lit (.int .i64 0)]),
  (9, [.agg [.sym 0, .sym 1, .sym 2], .agg [.sym 6, .sym 7, .sym 8]], .tup [.agg [.sym 27, .sym 28, .sym 29], .lit (.int .i64 0)]),
  (9, [.agg [.sym 24, .sym 25, .sym 26], .agg [.sym 6, .sym 7, .sym 8]], .tup [.agg [.sym 30, .sym 31, .sym 32], .lit (.int .i64 0)]),
  (9, [.agg [.sym 27, .sym 28, .sym 29], .agg [.sym 3, .sym 4, .sym 5]], .tup [.agg [.sym 33, .sym 34, .sym 35], .lit (.int .i64 0)]),
  (8, [.agg [.sym 24, .sym 25, .sym 26], .agg [.sym 27, .sym 28, .sym 29]], .tup [.agg [.sym 36, .sym 37, .sym 38], .lit (.int .i64 0)]),
  (9, [.agg [.sym 0, .sym 1, .sym 2], .agg [.sym 15, .sym 16, .sym 17]], .tup [.agg [.sym 39, .sym 40, .sym 41], .lit (.int .i64 0)]),
  (10, [.agg [.sym 9, .sym 10, .sym 11], .agg [.sym 3, .sym 4, .sym 5]], .tup [.agg [.sym 42, .sym 43, .sym 44], .lit (.int .i64 0)]),
  (10, [.agg [.sym 0, .sym 1, .sym 2], .agg [.sym 3, .sym 4, .sym 5]], .tup [.agg [.sym 45, .sym 46, .sym 47], .lit (.int .i64 0)]),
  (12, [.agg [.sym 0, .sym 1, .sym 2], .agg [.sym 3, .sym 4, .sym 5]], .tup [.sym 48, .lit (.int .i64 0)]),
  (6, [], .lit (.bool true))]⟩
theorem RatioField_n0_r1 (b6 : Bool) : @comes (RatioField_n0_k true true false false b6) Tryd.prog glT 3000 RatioField_n0_f RatioField_n0_a = some (.lit (.bool true)) := by kernel_rfl
theorem RatioField_n0_r2 (b3 : Bool) : @comes (RatioField_n0_k false b3 true true true) Tryd.prog glT 3000 RatioField_n0_f RatioField_n0_a = some (.lit (.bool true)) := by kernel_rfl
theorem RatioField_n0_r3 (b3 : Bool) : @comes (RatioField_n0_k false b3 false false true) Tryd.prog glT 3000 RatioField_n0_f RatioField_n0_a = some (.lit (.bool true)) := by kernel_rfl

set_option maxRecDepth 100000 in
set_option maxHeartbeats 4000000 in
theorem RatioField_n0 (x y z : Rat) (w : World) (hG : Globs glT w) (hx : Bq x 300) (hy : Bq y 300) (hz : Bq z 300) (hthree : ∀ w, Calls Tryd.prog 7 #[qv x, qv y, qv z] w fun e w' => e = .returned (.bool true) ∧ Below w.heap.size w w') (hy0 : qN y = 0) : Calls Tryd.prog 4 #[.agg #[.bool (qG x), .string (natS (qN x)), .string (natS (qD x))], .agg #[.bool (qG y), .string (natS (qN y)), .string (natS (qD y))], .agg #[.bool (qG z), .string (natS (qN z)), .string (natS (qD z))]] w fun e w' => e = .returned (.bool true) ∧ Below w.heap.size w w' := by
  have h1 : natS (qN y) = ⟨#[]⟩ := (by rw [hy0, natS_zero])
  have i1 : true = true ↔ (natS (qN y) = ⟨#[]⟩) := ⟨fun _ => h1, fun _ => rfl⟩
  obtain ⟨b2, i2⟩ := bex (qC x y < 0)
  obtain ⟨b3, i3⟩ := bex (true = qG (x - y))
  obtain ⟨b4, i4⟩ := bex (qC x y = 0)
  obtain ⟨b5, i5⟩ := bex (natS (qN (x - y)) = ⟨#[]⟩)
  obtain ⟨b6, i6⟩ := bex (false = qG (x - y))
  letI : Env := mkEnv glT [.bool (qG x), .string (natS (qN x)), .string (natS (qD x)), .bool (qG y), .string (natS (qN y)), .string (natS (qD y)), .bool (qG z), .string (natS (qN z)), .string (natS (qD z)), .bool (qG (x + y)), .string (natS (qN (x + y))), .string (natS (qD (x + y))), .bool (qG (x + y)), .string (natS (qN (x + y))), .string (natS (qD (x + y))), .bool (qG (y + z)), .string (natS (qN (y + z))), .string (natS (qD (y + z))), .bool (qG (x + y + z)), .string (natS (qN (x + y + z))), .string (natS (qD (x + y + z))), .bool (qG (x + y + z)), .string (natS (qN (x + y + z))), .string (natS (qD (x + y + z))), .bool (qG (x * y)), .string (natS (qN (x * y))), .string (natS (qD (x * y))), .bool (qG (x * z)), .string (natS (qN (x * z))), .string (natS (qD (x * z))), .bool (qG (x * y * z)), .string (natS (qN (x * y * z))), .string (natS (qD (x * y * z))), .bool (qG (x * y * z)), .string (natS (qN (x * y * z))), .string (natS (qD (x * y * z))), .bool (qG (x * y + x * z)), .string (natS (qN (x * y + x * z))), .string (natS (qD (x * y + x * z))), .bool (qG (x * y + x * z)), .string (natS (qN (x * y + x * z))), .string (natS (qD (x * y + x * z))), .bool (qG x), .string (natS (qN x)), .string (natS (qD x)), .bool (qG (x - y)), .string (natS (qN (x - y))), .string (natS (qD (x - y))), .int .i64 (qC x y)] rfl
  have hops : OpsT Tryd.prog (@Know.ops (RatioField_n0_k b2 b3 b4 b5 b6)) := ⟨optR_neq_i (a := qr (x + y)) (b := qr (x + y)) rfl rfl ⟨fun _ => rfl, fun _ => rfl⟩,
    optR_neq_i (a := qr (x + y + z)) (b := qr (x + y + z)) rfl rfl ⟨fun _ => rfl, fun _ => rfl⟩,
    optR_neq_i (a := qr (x * y * z)) (b := qr (x * y * z)) rfl rfl ⟨fun _ => rfl, fun _ => rfl⟩,
    optR_neq_i (a := qr (x * y + x * z)) (b := qr (x * y + x * z)) rfl rfl ⟨fun _ => rfl, fun _ => rfl⟩,
    optR_neq_i (a := qr x) (b := qr x) rfl rfl ⟨fun _ => rfl, fun _ => rfl⟩,
    optS_neq_i rfl rfl i1,
    opt_lss_i rfl rfl i2,
    optB_eql_i rfl rfl i3,
    opt_eql_i rfl rfl i4,
    optS_eql_i rfl rfl i5,
    optB_eql_i rfl rfl i6,
    trivial⟩
  have hcalls : CallsT Tryd.prog (@Know.calls (RatioField_n0_k b2 b3 b4 b5 b6)) := ⟨callt rfl rfl fun w hG => hthree w,
    callt rfl rfl fun w hG => QAdd x y (x + y) rfl (hx.fits (by decide)) (hy.fits (by decide)) ((hx.add hy).fits (by decide)) w,
    callt rfl rfl fun w hG => QAdd y x (x + y) (fl_comm x y) (hy.fits (by decide)) (hx.fits (by decide)) ((hx.add hy).fits (by decide)) w,
    callt rfl rfl fun w hG => QAdd y z (y + z) rfl (hy.fits (by decide)) (hz.fits (by decide)) ((hy.add hz).fits (by decide)) w,
    callt rfl rfl fun w hG => QAdd (x + y) z (x + y + z) rfl ((hx.add hy).fits (by decide)) (hz.fits (by decide)) (((hx.add hy).add hz).fits (by decide)) w,
    callt rfl rfl fun w hG => QAdd x (y + z) (x + y + z) (fl_assoc x y z) (hx.fits (by decide)) ((hy.add hz).fits (by decide)) (((hx.add hy).add hz).fits (by decide)) w,
    callt rfl rfl fun w hG => QMul x y (x * y) rfl (hx.fits (by decide)) (hy.fits (by decide)) ((hx.mul hy).fits (by decide)) w,
    callt rfl rfl fun w hG => QMul x z (x * z) rfl (hx.fits (by decide)) (hz.fits (by decide)) ((hx.mul hz).fits (by decide)) w,
    callt rfl rfl fun w hG => QMul (x * y) z (x * y * z) rfl ((hx.mul hy).fits (by decide)) (hz.fits (by decide)) (((hx.mul hy).mul hz).fits (by decide)) w,
    callt rfl rfl fun w hG => QMul (x * z) y (x * y * z) (fl_swap x y z) ((hx.mul hz).fits (by decide)) (hy.fits (by decide)) (((hx.mul hy).mul hz).fits (by decide)) w,
    callt rfl rfl fun w hG => QAdd (x * y) (x * z) (x * y + x * z) rfl ((hx.mul hy).fits (by decide)) ((hx.mul hz).fits (by decide)) (((hx.mul hy).add (hx.mul hz)).fits (by decide)) w,
    callt rfl rfl fun w hG => QMul x (y + z) (x * y + x * z) (fl_dist x y z) (hx.fits (by decide)) ((hy.add hz).fits (by decide)) (((hx.mul hy).add (hx.mul hz)).fits (by decide)) w,
    callt rfl rfl fun w hG => QSub (x + y) y x (fl_back x y) ((hx.add hy).fits (by decide)) (hy.fits (by decide)) (hx.fits (by decide)) w,
    callt rfl rfl fun w hG => QSub x y (x - y) rfl (hx.fits (by decide)) (hy.fits (by decide)) ((hx.sub hy).fits (by decide)) w,
    callt rfl rfl fun w hG => PCompare_c x y w (hx.fits (by decide)) (hy.fits (by decide)),
    callt rfl rfl fun w hG => lives4_c w hG,
    trivial⟩
  have fin : ∀ v, @comes (RatioField_n0_k b2 b3 b4 b5 b6) Tryd.prog glT 3000 RatioField_n0_f RatioField_n0_a = some v → ground v = true → Ending.returned (gval v) = .returned (.bool true) → Calls Tryd.prog 4 #[.agg #[.bool (qG x), .string (natS (qN x)), .string (natS (qD x))], .agg #[.bool (qG y), .string (natS (qN y)), .string (natS (qD y))], .agg #[.bool (qG z), .string (natS (qN z)), .string (natS (qD z))]] w fun e w' => e = .returned (.bool true) ∧ Below w.heap.size w w' := fun v h1 h2 h3 => (@sym_ok _ (RatioField_n0_k b2 b3 b4 b5 b6) _ (@KnowOk.of _ (RatioField_n0_k b2 b3 b4 b5 b6) _ hops hcalls) (by kernel_rfl) _ _ _ _ h1 rfl h2 _ hG).mono fun e w' h => ⟨h.1.trans h3, h.2⟩
  clear hops hcalls
  cases b2 with
  | true =>
    have h2 : qC x y < 0 := i2.1 rfl
    cases b3 with
    | true =>
      have h3 : true = qG (x - y) := i3.1 rfl
      cases b4 with
      | true =>
        exact absurd (i4.1 rfl) ((by omega))
      | false =>
        have h4 : ¬ (qC x y = 0) := fun c => Bool.false_ne_true (i4.2 c)
        cases b5 with
        | true =>
          exact absurd (i5.1 rfl) ((fun c => h4 ((qC_nul x y).2 (nul_nat.1 c))))
        | false =>
          have h5 : ¬ (natS (qN (x - y)) = ⟨#[]⟩) := fun c => Bool.false_ne_true (i5.2 c)
          exact fin _ (RatioField_n0_r1 b6) rfl rfl
    | false =>
      exact absurd (i3.2 (((qC_neg x y).1 h2).symm)) Bool.false_ne_true
  | false =>
    have h2 : ¬ (qC x y < 0) := fun c => Bool.false_ne_true (i2.2 c)
    cases b6 with
    | true =>
      have h6 : false = qG (x - y) := i6.1 rfl
      cases b4 with
      | true =>
        have h4 : qC x y = 0 := i4.1 rfl
        cases b5 with
        | true =>
          have h5 : natS (qN (x - y)) = ⟨#[]⟩ := i5.1 rfl
          exact fin _ (RatioField_n0_r2 b3) rfl rfl
        | false =>
          exact absurd (i5.2 ((nul_nat.2 ((qC_nul x y).1 h4)))) Bool.false_ne_true
      | false =>
        have h4 : ¬ (qC x y = 0) := fun c => Bool.false_ne_true (i4.2 c)
        cases b5 with
        | true =>
          exact absurd (i5.1 rfl) ((fun c => h4 ((qC_nul x y).2 (nul_nat.1 c))))
        | false =>
          have h5 : ¬ (natS (qN (x - y)) = ⟨#[]⟩) := fun c => Bool.false_ne_true (i5.2 c)
          exact fin _ (RatioField_n0_r3 b3) rfl rfl
    | false =>
      exact absurd (i6.2 ((Bool.eq_false_iff.2 (fun c => h2 ((qC_neg x y).2 c))).symm)) Bool.false_ne_true

@[reducible] def RatioField_n1_f : FuncId := 4
@[reducible] def RatioField_n1_a : List AV := [.agg [.sym 0, .sym 1, .sym 2], .agg [.sym 3, .sym 4, .sym 5], .agg [.sym 6, .sym 7, .sym 8]]
@[reducible] noncomputable def RatioField_n1_k (b2 b3 b4 b5 b6 : Bool) : Know := ⟨[([0, 12, 25], [.agg [.sym 9, .sym 10, .sym 11], .agg [.sym 12, .sym 13, .sym 14]], .lit (.bool false)),
  ([0, 12, 25], [.agg [.sym 18, .sym 19, .sym 20], .agg [.sym 21, .sym 22, .sym 23]], .lit (.bool false)),
  ([0, 12, 25], [.agg [.sym 30, .sym 31, .sym 32], .agg [.sym 33, .sym 34, .sym 35]], .lit (.bool false)),
  ([0, 12, 25], [.agg [.sym 36, .sym 37, .sym 38], .agg [.sym 39, .sym 40, .sym 41]], .lit (.bool false)),
  ([0, 12, 25], [.agg [.sym 42, .sym 43, .sym 44], .agg [.sym 0, .sym 1, .sym 2]], .lit (.bool false)),
  ([0, 12, 23], [.sym 4, .lit (.string ⟨#[]⟩)], .lit (.bool true)),
  ([0, 12, 25], [.agg [.sym 45, .sym 46, .sym 47], .agg [.sym 0, .sym 1, .sym 2]], .lit (.bool false)),
  ([0, 13, 3], [.sym 51, .lit (.int .i64 0)], .lit (.bool b2)),
  ([0, 11, 4], [.lit (.bool true), .sym 48], .lit (.bool b3)),
  ([0, 11, 3], [.sym 51, .lit (.int .i64 0)], .lit (.bool b4)),
  ([0, 11, 23], [.sym 49, .lit (.string ⟨#[]⟩)], .lit (.bool b5)),
  ([0, 11, 4], [.lit (.bool false), .sym 48], .lit (.bool b6))],
  [(7, [.agg [.sym 0, .sym 1, .sym 2], .agg [.sym 3, .sym 4, .sym 5], .agg [.sym 6, .sym 7, .sym 8]], .lit (.bool true)),
  (8, [.agg [.sym 0, .sym 1, .sym 2], .agg [.sym 3, .sym 4, .sym 5]], .tup [.agg [.sym 9, .sym 10, .sym 11], .lit (.int .i64 0)]),
  (8, [.agg [.sym 3, .sym 4, .sym 5], .agg [.sym 0, .sym 1, .sym 2]], .tup [.agg [.sym 12, .sym 13, .sym 14], .lit (.int .i64 0)]),
  (8, [.agg [.sym 3, .sym 4, .sym 5], .agg [.sym 6, .sym 7, .sym 8]], .tup [.agg [.sym 15, .sym 16, .sym 17], .lit (.int .i64 0)]),
  (8, [.agg [.sym 9, .sym 10, .sym 11], .agg [.sym 6, .sym 7, .sym 8]], .tup [.agg [.sym 18, .sym 19, .sym 20], .lit (.int .i64 0)]),
  (8, [.agg [.sym 0, .sym 1, .sym 2], .agg [.sym 15, .sym 16, .sym 17]], .tup [.agg [.sym 21, .sym 22, .sym 23], .lit (.int .i64 0)]),
  (9, [.agg [.sym 0, .sym 1, .sym 2], .agg [.sym 3, .sym 4, .sym 5]], .tup [.agg [.sym 24, .sym 25, .sym 26], .lit (.int .i64 0)]),
  (9, [.agg [.sym 0, .sym 1, .sym 2], .agg [.sym 6, .sym 7, .sym 8]], .tup [.agg [.sym 27, .sym 28, .sym 29], .lit (.int .i64 0)]),
  (9, [.agg [.sym 24, .sym 25, .sym 26], .agg [.sym 6, .sym 7, .sym 8]], .tup [.agg [.sym 30, .sym 31, .sym 32], .lit (.int .i64 0)]),
  (9, [.agg [.sym 27, .sym 28, .sym 29], .agg [.sym 3, .sym 4, .sym 5]], .tup [.agg [.sym 33, .sym 34, .sym 35], .lit (.int .i64 0)]),
  (8, [.agg [.sym 24, .sym 25, .sym 26], .agg [.sym 27, .sym 28, .sym 29]], .tup [.agg [.sym 36, .sym 37, .sym 38], .lit (.int .i64 0)]),
  (9, [.agg [.sym 0, .sym 1, .sym 2], .agg [.sym 15, .sym 16, .sym 17]], .tup [.agg [.sym 39, .sym 40, .sym 41], .lit (.int .i64 0)]),
  (10, [.agg [.sym 9, .sym 10, .sym 11], .agg [.sym 3, .sym 4, .sym 5]], .tup [.agg [.sym 42, .sym 43, .sym 44], .lit (.int .i64 0)]),
  (11, [.agg [.sym 24, .sym 25, .sym 26], .agg [.sym 3, .sym 4, .sym 5]], .tup [.agg [.sym 45, .sym 46, .sym 47], .lit (.int .i64 0)]),
  (10, [.agg [.sym 0, .sym 1, .sym 2], .agg [.sym 3, .sym 4, .sym 5]], .tup [.agg [.sym 48, .sym 49, .sym 50], .lit (.int .i64 0)]),
  (12, [.agg [.sym 0, .sym 1, .sym 2], .agg [.sym 3, .sym 4, .sym 5]], .tup [.sym 51, .lit (.int .i64 0)]),
  (6, [], .lit (.bool true))]⟩
theorem RatioField_n1_r1 (b6 : Bool) : @comes (RatioField_n1_k true true false false b6) Tryd.prog glT 3000 RatioField_n1_f RatioField_n1_a = some (.lit (.bool true)) := by kernel_rfl
theorem RatioField_n1_r2 (b3 : Bool) : @comes (RatioField_n1_k false b3 true true true) Tryd.prog glT 3000 RatioField_n1_f RatioField_n1_a = some (.lit (.bool true)) := by kernel_rfl
theorem RatioField_n1_r3 (b3 : Bool) : @comes (RatioField_n1_k false b3 false false true) Tryd.prog glT 3000 RatioField_n1_f RatioField_n1_a = some (.lit (.bool true)) := by kernel_rfl

set_option maxRecDepth 100000 in
set_option maxHeartbeats 4000000 in
theorem RatioField_n1 (x y z : Rat) (w : World) (hG : Globs glT w) (hx : Bq x 300) (hy : Bq y 300) (hz : Bq z 300) (hthree : ∀ w, Calls Tryd.prog 7 #[qv x, qv y, qv z] w fun e w' => e = .returned (.bool true) ∧ Below w.heap.size w w') (hy0 : qN y ≠ 0) : Calls Tryd.prog 4 #[.agg #[.bool (qG x), .string (natS (qN x)), .string (natS (qD x))], .agg #[.bool (qG y), .string (natS (qN y)), .string (natS (qD y))], .agg #[.bool (qG z), .string (natS (qN z)), .string (natS (qD z))]] w fun e w' => e = .returned (.bool true) ∧ Below w.heap.size w w' := by
  have h1 : ¬ (natS (qN y) = ⟨#[]⟩) := (fun c => hy0 (nul_nat.1 c))
  have i1 : false = true ↔ (natS (qN y) = ⟨#[]⟩) := ⟨fun k => absurd k Bool.false_ne_true, fun k => absurd k h1⟩
  obtain ⟨b2, i2⟩ := bex (qC x y < 0)
  obtain ⟨b3, i3⟩ := bex (true = qG (x - y))
  obtain ⟨b4, i4⟩ := bex (qC x y = 0)
  obtain ⟨b5, i5⟩ := bex (natS (qN (x - y)) = ⟨#[]⟩)
  obtain ⟨b6, i6⟩ := bex (false = qG (x - y))
  letI : Env := mkEnv glT [.bool (qG x), .string (natS (qN x)), .string (natS (qD x)), .bool (qG y), .string (natS (qN y)), .string (natS (qD y)), .bool (qG z), .string (natS (qN z)), .string (natS (qD z)), .bool (qG (x + y)), .string (natS (qN (x + y))), .string (natS (qD (x + y))), .bool (qG (x + y)), .string (natS (qN (x + y))), .string (natS (qD (x + y))), .bool (qG (y + z)), .string (natS (qN (y + z))), .string (natS (qD (y + z))), .bool (qG (x + y + z)), .string (natS (qN (x + y + z))), .string (natS (qD (x + y + z))), .bool (qG (x + y + z)), .string (natS (qN (x + y + z))), .string (natS (qD (x + y + z))), .bool (qG (x * y)), .string (natS (qN (x * y))), .string (natS (qD (x * y))), .bool (qG (x * z)), .string (natS (qN (x * z))), .string (natS (qD (x * z))), .bool (qG (x * y * z)), .string (natS (qN (x * y * z))), .string (natS (qD (x * y * z))), .bool (qG (x * y * z)), .string (natS (qN (x * y * z))), .string (natS (qD (x * y * z))), .bool (qG (x * y + x * z)), .string (natS (qN (x * y + x * z))), .string (natS (qD (x * y + x * z))), .bool (qG (x * y + x * z)), .string (natS (qN (x * y + x * z))), .string (natS (qD (x * y + x * z))), .bool (qG x), .string (natS (qN x)), .string (natS (qD x)), .bool (qG x), .string (natS (qN x)), .string (natS (qD x)), .bool (qG (x - y)), .string (natS (qN (x - y))), .string (natS (qD (x - y))), .int .i64 (qC x y)] rfl
  have hops : OpsT Tryd.prog (@Know.ops (RatioField_n1_k b2 b3 b4 b5 b6)) := ⟨optR_neq_i (a := qr (x + y)) (b := qr (x + y)) rfl rfl ⟨fun _ => rfl, fun _ => rfl⟩,
    optR_neq_i (a := qr (x + y + z)) (b := qr (x + y + z)) rfl rfl ⟨fun _ => rfl, fun _ => rfl⟩,
    optR_neq_i (a := qr (x * y * z)) (b := qr (x * y * z)) rfl rfl ⟨fun _ => rfl, fun _ => rfl⟩,
    optR_neq_i (a := qr (x * y + x * z)) (b := qr (x * y + x * z)) rfl rfl ⟨fun _ => rfl, fun _ => rfl⟩,
    optR_neq_i (a := qr x) (b := qr x) rfl rfl ⟨fun _ => rfl, fun _ => rfl⟩,
    optS_neq_i rfl rfl i1,
    optR_neq_i (a := qr x) (b := qr x) rfl rfl ⟨fun _ => rfl, fun _ => rfl⟩,
    opt_lss_i rfl rfl i2,
    optB_eql_i rfl rfl i3,
    opt_eql_i rfl rfl i4,
    optS_eql_i rfl rfl i5,
    optB_eql_i rfl rfl i6,
    trivial⟩
  have hcalls : CallsT Tryd.prog (@Know.calls (RatioField_n1_k b2 b3 b4 b5 b6)) := ⟨callt rfl rfl fun w hG => hthree w,
    callt rfl rfl fun w hG => QAdd x y (x + y) rfl (hx.fits (by decide)) (hy.fits (by decide)) ((hx.add hy).fits (by decide)) w,
    callt rfl rfl fun w hG => QAdd y x (x + y) (fl_comm x y) (hy.fits (by decide)) (hx.fits (by decide)) ((hx.add hy).fits (by decide)) w,
    callt rfl rfl fun w hG => QAdd y z (y + z) rfl (hy.fits (by decide)) (hz.fits (by decide)) ((hy.add hz).fits (by decide)) w,
    callt rfl rfl fun w hG => QAdd (x + y) z (x + y + z) rfl ((hx.add hy).fits (by decide)) (hz.fits (by decide)) (((hx.add hy).add hz).fits (by decide)) w,
    callt rfl rfl fun w hG => QAdd x (y + z) (x + y + z) (fl_assoc x y z) (hx.fits (by decide)) ((hy.add hz).fits (by decide)) (((hx.add hy).add hz).fits (by decide)) w,
    callt rfl rfl fun w hG => QMul x y (x * y) rfl (hx.fits (by decide)) (hy.fits (by decide)) ((hx.mul hy).fits (by decide)) w,
    callt rfl rfl fun w hG => QMul x z (x * z) rfl (hx.fits (by decide)) (hz.fits (by decide)) ((hx.mul hz).fits (by decide)) w,
    callt rfl rfl fun w hG => QMul (x * y) z (x * y * z) rfl ((hx.mul hy).fits (by decide)) (hz.fits (by decide)) (((hx.mul hy).mul hz).fits (by decide)) w,
    callt rfl rfl fun w hG => QMul (x * z) y (x * y * z) (fl_swap x y z) ((hx.mul hz).fits (by decide)) (hy.fits (by decide)) (((hx.mul hy).mul hz).fits (by decide)) w,
    callt rfl rfl fun w hG => QAdd (x * y) (x * z) (x * y + x * z) rfl ((hx.mul hy).fits (by decide)) ((hx.mul hz).fits (by decide)) (((hx.mul hy).add (hx.mul hz)).fits (by decide)) w,
    callt rfl rfl fun w hG => QMul x (y + z) (x * y + x * z) (fl_dist x y z) (hx.fits (by decide)) ((hy.add hz).fits (by decide)) (((hx.mul hy).add (hx.mul hz)).fits (by decide)) w,
    callt rfl rfl fun w hG => QSub (x + y) y x (fl_back x y) ((hx.add hy).fits (by decide)) (hy.fits (by decide)) (hx.fits (by decide)) w,
    callt rfl rfl fun w hG => QQuo (x * y) y x (fl_over x y hy0) ((hx.mul hy).fits (by decide)) (hy.fits (by decide)) hy0 (hx.fits (by decide)) w,
    callt rfl rfl fun w hG => QSub x y (x - y) rfl (hx.fits (by decide)) (hy.fits (by decide)) ((hx.sub hy).fits (by decide)) w,
    callt rfl rfl fun w hG => PCompare_c x y w (hx.fits (by decide)) (hy.fits (by decide)),
    callt rfl rfl fun w hG => lives4_c w hG,
    trivial⟩
  have fin : ∀ v, @comes (RatioField_n1_k b2 b3 b4 b5 b6) Tryd.prog glT 3000 RatioField_n1_f RatioField_n1_a = some v → ground v = true → Ending.returned (gval v) = .returned (.bool true) → Calls Tryd.prog 4 #[.agg #[.bool (qG x), .string (natS (qN x)), .string (natS (qD x))], .agg #[.bool (qG y), .string (natS (qN y)), .string (natS (qD y))], .agg #[.bool (qG z), .string (natS (qN z)), .string (natS (qD z))]] w fun e w' => e = .returned (.bool true) ∧ Below w.heap.size w w' := fun v h1 h2 h3 => (@sym_ok _ (RatioField_n1_k b2 b3 b4 b5 b6) _ (@KnowOk.of _ (RatioField_n1_k b2 b3 b4 b5 b6) _ hops hcalls) (by kernel_rfl) _ _ _ _ h1 rfl h2 _ hG).mono fun e w' h => ⟨h.1.trans h3, h.2⟩
  clear hops hcalls
  cases b2 with
  | true =>
    have h2 : qC x y < 0 := i2.1 rfl
    cases b3 with
    | true =>
      have h3 : true = qG (x - y) := i3.1 rfl
      cases b4 with
      | true =>
        exact absurd (i4.1 rfl) ((by omega))
      | false =>
        have h4 : ¬ (qC x y = 0) := fun c => Bool.false_ne_true (i4.2 c)
        cases b5 with
        | true =>
          exact absurd (i5.1 rfl) ((fun c => h4 ((qC_nul x y).2 (nul_nat.1 c))))
        | false =>
          have h5 : ¬ (natS (qN (x - y)) = ⟨#[]⟩) := fun c => Bool.false_ne_true (i5.2 c)
          exact fin _ (RatioField_n1_r1 b6) rfl rfl
    | false =>
      exact absurd (i3.2 (((qC_neg x y).1 h2).symm)) Bool.false_ne_true
  | false =>
    have h2 : ¬ (qC x y < 0) := fun c => Bool.false_ne_true (i2.2 c)
    cases b6 with
    | true =>
      have h6 : false = qG (x - y) := i6.1 rfl
      cases b4 with
      | true =>
        have h4 : qC x y = 0 := i4.1 rfl
        cases b5 with
        | true =>
          have h5 : natS (qN (x - y)) = ⟨#[]⟩ := i5.1 rfl
          exact fin _ (RatioField_n1_r2 b3) rfl rfl
        | false =>
          exact absurd (i5.2 ((nul_nat.2 ((qC_nul x y).1 h4)))) Bool.false_ne_true
      | false =>
        have h4 : ¬ (qC x y = 0) := fun c => Bool.false_ne_true (i4.2 c)
        cases b5 with
        | true =>
          exact absurd (i5.1 rfl) ((fun c => h4 ((qC_nul x y).2 (nul_nat.1 c))))
        | false =>
          have h5 : ¬ (natS (qN (x - y)) = ⟨#[]⟩) := fun c => Bool.false_ne_true (i5.2 c)
          exact fin _ (RatioField_n1_r3 b3) rfl rfl
    | false =>
      exact absurd (i6.2 ((Bool.eq_false_iff.2 (fun c => h2 ((qC_neg x y).2 c))).symm)) Bool.false_ne_true

@[reducible] def RatioField_no_f : FuncId := 4
@[reducible] def RatioField_no_a : List AV := [.agg [.sym 0, .sym 1, .sym 2], .agg [.sym 3, .sym 4, .sym 5], .agg [.sym 6, .sym 7, .sym 8]]
@[reducible] noncomputable def RatioField_no_k : Know := ⟨[],
  [(7, [.agg [.sym 0, .sym 1, .sym 2], .agg [.sym 3, .sym 4, .sym 5], .agg [.sym 6, .sym 7, .sym 8]], .lit (.bool false)),
  (6, [], .lit (.bool true))]⟩
theorem RatioField_no_r1 : @comes RatioField_no_k Tryd.prog glT 3000 RatioField_no_f RatioField_no_a = some (.lit (.bool true)) := by kernel_rfl

set_option maxRecDepth 100000 in
set_option maxHeartbeats 4000000 in
theorem RatioField_no (a b c : Rx) (w : World) (hG : Globs glT w) (hthree : ∀ w, Calls Tryd.prog 7 #[.agg #[.bool a.g, .string a.s, .string a.t], .agg #[.bool b.g, .string b.s, .string b.t], .agg #[.bool c.g, .string c.s, .string c.t]] w fun e w' => e = .returned (.bool false) ∧ Below w.heap.size w w') : Calls Tryd.prog 4 #[.agg #[.bool a.g, .string a.s, .string a.t], .agg #[.bool b.g, .string b.s, .string b.t], .agg #[.bool c.g, .string c.s, .string c.t]] w fun e w' => e = .returned (.bool true) ∧ Below w.heap.size w w' := by
  letI : Env := mkEnv glT [.bool a.g, .string a.s, .string a.t, .bool b.g, .string b.s, .string b.t, .bool c.g, .string c.s, .string c.t] rfl
  have hops : OpsT Tryd.prog (@Know.ops RatioField_no_k) := trivial
  have hcalls : CallsT Tryd.prog (@Know.calls RatioField_no_k) := ⟨callt rfl rfl fun w hG => hthree w,
    callt rfl rfl fun w hG => lives4_c w hG,
    trivial⟩
  have fin : ∀ v, @comes RatioField_no_k Tryd.prog glT 3000 RatioField_no_f RatioField_no_a = some v → ground v = true → Ending.returned (gval v) = .returned (.bool true) → Calls Tryd.prog 4 #[.agg #[.bool a.g, .string a.s, .string a.t], .agg #[.bool b.g, .string b.s, .string b.t], .agg #[.bool c.g, .string c.s, .string c.t]] w fun e w' => e = .returned (.bool true) ∧ Below w.heap.size w w' := fun v h1 h2 h3 => (@sym_ok _ RatioField_no_k _ (@KnowOk.of _ RatioField_no_k _ hops hcalls) (by kernel_rfl) _ _ _ _ h1 rfl h2 _ hG).mono fun e w' h => ⟨h.1.trans h3, h.2⟩
  clear hops hcalls
  exact fin _ (RatioField_no_r1) rfl rfl

theorem RatioField_law (a b c : Rx) (w : World) (hG : Globs glT w) (ha : a.s.size ≤ 9223372036854775807 ∧ a.t.size ≤ 9223372036854775807) (hb : b.s.size ≤ 9223372036854775807 ∧ b.t.size ≤ 9223372036854775807) (hc : c.s.size ≤ 9223372036854775807 ∧ c.t.size ≤ 9223372036854775807) : Calls Tryd.prog 4 #[.agg #[.bool a.g, .string a.s, .string a.t], .agg #[.bool b.g, .string b.s, .string b.t], .agg #[.bool c.g, .string c.s, .string c.t]] w fun e w' => e = .returned (.bool true) ∧ Below w.heap.size w w' := by
  obtain ⟨t, h1, h2⟩ := Pthree_c a b c ha hb hc
  cases t with
  | false => exact RatioField_no a b c w hG h2
  | true =>
    obtain ⟨⟨x, y, z, h3, h4, h5⟩, s1, s2, s3⟩ := h1 rfl
    have b1 := h3.bytes s1
    have b2 := h4.bytes s2
    have b3 := h5.bytes s3
    obtain ⟨_, rfl⟩ := h3
    obtain ⟨_, rfl⟩ := h4
    obtain ⟨_, rfl⟩ := h5
    by_cases hy : qN y = 0
    · exact RatioField_n0 x y z w hG b1 b2 b3 h2 hy
    · exact RatioField_n1 x y z w hG b1 b2 b3 h2 hy

end Go.Proofs.YtajcapliokblfaaDoor
set_option linter.unusedVariables false
namespace Go.Proofs.YtajcapliokblfaaDoor
open Go Go.ChangeShapes Go.WideShapes Go.ChangeAt Go.RowKit Go.Joins
variable {H : Type} {enc : TypeId × Value → H}
/-- A Ratio's datum. -/
def ratD (H : Type) (r : Rx) : DataW H := .agg [.lit (.bool r.g), .lit (.string r.s.data.toList), .lit (.string r.t.data.toList)]
def Rx.max (r : Rx) : Prop := r.s.size ≤ maxLen ∧ r.t.size ≤ maxLen
theorem Rx.max.sz {r : Rx} (h : r.max) : r.s.size ≤ 9223372036854775807 ∧ r.t.size ≤ 9223372036854775807 := by
  have h1 := h.1; have h2 := h.2
  unfold maxLen at h1 h2
  exact ⟨by omega, by omega⟩
set_option maxRecDepth 100000 in
theorem open_rat {w : World} {base : Nat} {spare : Nat → Bool} {held : Bool} {r : Go.Reach} {b0 : Nat} {v : Value} {d : DataW H} {p : List MemPlace}
    (hv : Value.okWide Tryd.prog w r b0 25 v) (h : DataW.Trod enc Tryd.prog w base spare held 25 v d p) :
    ∃ a : Rx, v = .agg #[.bool a.g, .string a.s, .string a.t] ∧ d = ratD H a ∧ p = [] ∧ a.max := by
  obtain ⟨c0, c1, c2, y0, y1, y2, m, rfl, rfl, rfl, hy0, hy1, hy2⟩ := open_agg3 Tryd.underlying25 (by kernel_rfl) (by kernel_rfl) hv h
  obtain ⟨g, e0, rfl⟩ := DataW.trod_bool Tryd.underlying4 hy0
  obtain ⟨s, e1, rfl, hs⟩ := DataW.trod_string Tryd.underlying23 hy1
  obtain ⟨t, e2, rfl, ht⟩ := DataW.trod_string Tryd.underlying23 hy2
  simp at e0 e1 e2
  subst e0 e1 e2
  exact ⟨⟨g, s, t⟩, rfl, rfl, rfl, hs, ht⟩
set_option maxRecDepth 100000 in
theorem shut_rat {W' : World} {b : Nat} {sp : Nat → Bool} {hd : Bool} {a : Rx} (hm : a.max) :
    DataW.Trod enc Tryd.prog W' b sp hd 25 (.agg #[.bool a.g, .string a.s, .string a.t]) (ratD H a) [] := by
  simpa [ratD] using shut_agg3 (enc := enc) (w := W') (base := b) (spare := sp) (held := hd) (y0 := (.lit (.bool a.g), [])) (y1 := (.lit (.string a.s.data.toList), [])) (y2 := (.lit (.string a.t.data.toList), [])) Tryd.underlying25 (by kernel_rfl) (by kernel_rfl) ⟨1, by simp [DataW.trod, Tryd.underlying4]⟩ ⟨1, by simp [DataW.trod, Tryd.underlying23, hm.1]⟩ ⟨1, by simp [DataW.trod, Tryd.underlying23, hm.2]⟩
end Go.Proofs.YtajcapliokblfaaDoor
