/- Texts put together: D23 D24 D25 D26. -/
import Derived.Test.YtjkonfopajihdaaDoorZl
import Derived.Test.YtjkonfopajihdaaDoorZn
set_option linter.unusedSimpArgs false
set_option linter.unusedVariables false
namespace Go.Proofs.YtjkonfopajihdaaDoor
open Go Go.RowKit Nt

/-- Any value of the type Dyad. -/
structure Dt where
  g : Bool
  s : ByteArray
  x : Int
def Dt.v (t : Dt) : Value := .agg #[.bool t.g, .string t.s, .int .i64 t.x]
def Dt.Ok (t : Dt) : Prop := DOk t.g t.s t.x
theorem Dt.small {t : Dt} (h : t.Ok) : t.s.size ≤ 16384 := by
  rcases h with ⟨h, _⟩ | ⟨n, hf, _, h, _⟩
  · rw [h]; decide
  · rw [h, natS_size]; exact hf
open Classical in
@[irreducible] noncomputable def dE (l : List Dt) : Int := if ∀ t ∈ l, t.Ok then 0 else 2
theorem dE_ok {l : List Dt} (h : ∀ t ∈ l, t.Ok) : dE l = 0 := by unfold dE; rw [if_pos h]
theorem dE_no {l : List Dt} {t : Dt} (h : t ∈ l) (hn : ¬ t.Ok) : dE l = 2 := by unfold dE; rw [if_neg (fun c => hn (c t h))]
theorem DCheck_c (t : Dt) (w : World) (hs : t.s.size ≤ 9223372036854775807) : Calls Tryd.prog 15 #[.agg #[.bool t.g, .string t.s, .int .i64 t.x]] w fun e w' => e = .returned (.int .i64 (dE [t])) ∧ Below w.heap.size w w' := by
  by_cases h : t.Ok
  · rw [dE_ok (fun u hu => by rw [List.mem_singleton.1 hu]; exact h)]
    rcases h with ⟨e1, e2, e3⟩ | ⟨n, hf, ho, e1, h1, h2⟩
    · rw [e1, e2, e3]; exact DCheck_zero w
    · rw [e1]; exact DCheck_num t.g n t.x w hf ho h1 h2
  · rw [dE_no (List.mem_singleton.2 rfl) h]
    exact DCheck_bad t.g t.s t.x w hs h
/-- A row of Dyads. -/
def Dts (w : World) (A : Option Addr) (l : List Dt) : Prop := 0 < l.length → ∃ ad, A = some ad ∧ ad.block < w.heap.size ∧ ∀ j (h : j < l.length), w.cell? (ad.add (j * 3)) = some (.bool l[j].g) ∧ w.cell? ⟨(ad.add (j * 3)).block, (ad.add (j * 3)).off + 1, none⟩ = some (.string l[j].s) ∧ w.cell? ⟨(ad.add (j * 3)).block, (ad.add (j * 3)).off + 2, none⟩ = some (.int .i64 l[j].x)
theorem Dts.below {w w' : World} {A : Option Addr} {l : List Dt} (h : Dts w A l) (hb : Below w.heap.size w w') : Dts w' A l := fun h0 => by
  obtain ⟨ad, e, hl, hc⟩ := h h0
  refine ⟨ad, e, Nat.lt_of_lt_of_le hl hb.size, fun j hj => ?_⟩
  obtain ⟨c1, c2, c3⟩ := hc j hj
  exact ⟨(hb.cell (p := ad.add (j * 3)) (by rw [block_of_add']; exact hl)).trans c1, (hb.cell (p := ⟨(ad.add (j * 3)).block, (ad.add (j * 3)).off + 1, none⟩) (by show (ad.add (j * 3)).block < _; rw [block_of_add']; exact hl)).trans c2, (hb.cell (p := ⟨(ad.add (j * 3)).block, (ad.add (j * 3)).off + 2, none⟩) (by show (ad.add (j * 3)).block < _; rw [block_of_add']; exact hl)).trans c3⟩
set_option maxRecDepth 100000 in
set_option maxHeartbeats 1000000 in
theorem Dall_c (A : Option Addr) (c : Nat) (l : List Dt) (w : World) (hl : l.length ≤ 9223372036854775807) (hs : ∀ t ∈ l, t.s.size ≤ 9223372036854775807) (h : Dts w A l) :
    Calls Tryd.prog 75 #[.slice A l.length c] w fun e w' => e = .returned (.int .i64 (dE l)) ∧ Below w.heap.size w w' := by
  have HD := Lib.hid h
  have HS := Lib.hid hs
  clear h hs
  go_enter Tryd.func75, Tryd.ntmps75
  go_wp2
  go_loopw [8] (fun i wr => ∃ k : Nat, k ≤ l.length ∧ i = .int .i64 k ∧ Hid (∀ j (h : j < l.length), j < k → l[j].Ok) ∧ Below w.heap.size w wr) (fun i _ => l.length - (intOf i).toNat)
  case atStart => exact ⟨0, Nat.zero_le _, rfl, Lib.hid (fun j _ h => by omega), Below.refl _ _⟩
  case round =>
    obtain ⟨k, hk, rfl, hok, hb⟩ := hrel
    by_cases hlt : k < l.length
    · obtain ⟨ad, rfl, hadb, hc⟩ := (HD.out.below hb) (by omega)
      obtain ⟨c1, c2, c3⟩ := hc k hlt
      have K := Lib.hid (fun w => DCheck_c l[k] w (HS.out _ (List.getElem_mem hlt)))
      by_cases hok1 : l[k].Ok
      · have e0 := dE_ok (l := [l[k]]) (fun u hu => by rw [List.mem_singleton.1 hu]; exact hok1)
        rw [e0] at K
        have HOK := Lib.hid (show ∀ j (h : j < l.length), j < k + 1 → l[j].Ok from fun j hj h2 => by
          rcases Nat.lt_or_ge j k with h3 | h3
          · exact hok.out j hj h3
          · obtain rfl : j = k := by omega
            exact hok1)
        clear e0 hok1 hc
        go_wp2_with fail
        refine (K.out _).mono ?_
        rintro e w2 ⟨rfl, hb2⟩
        have hb3 := below_chain hb (box_below hb2)
        clear hb2
        go_wp2_with fail
        go_roundw
        case rel => exact ⟨k + 1, by omega, by go_num, HOK, hb3⟩
        case measure => simp [intOf]; omega
      · have e0 := dE_no (l := [l[k]]) (List.mem_singleton.2 rfl) hok1
        have e1 := dE_no (l := l) (List.getElem_mem hlt) hok1
        rw [e0] at K
        have HE := Lib.hid e1
        clear e0 e1 hok1 hc
        go_wp2_with fail
        refine (K.out _).mono ?_
        rintro e w2 ⟨rfl, hb2⟩
        have hb3 := below_chain hb (box_below hb2)
        clear hb2
        go_wp2_with fail
        go_ret
        exact ⟨by rw [HE.out]; rfl, hb3⟩
    · have e1 := dE_ok (l := l) (fun t ht => by
        obtain ⟨j, hj, rfl⟩ := List.getElem_of_mem ht
        exact hok.out j hj (by omega))
      have HE := Lib.hid e1
      clear e1
      go_wp2_with fail
      go_ret
      exact ⟨by rw [HE.out]; rfl, hb⟩
end Go.Proofs.YtjkonfopajihdaaDoor
set_option linter.unusedSimpArgs false
set_option linter.unusedVariables false
namespace Go.Proofs.YtjkonfopajihdaaDoor
open Go Go.RowKit Nt

/-- From w on, with two Dyads in boxes. -/
def TB (w : World) (a b : Dt) (W : World) : Prop := Below w.heap.size w W ∧ Box3 W w.heap.size (.bool a.g) (.string a.s) (.int .i64 a.x) ∧ Box3 W (w.heap.size + 1) (.bool b.g) (.string b.s) (.int .i64 b.x)
theorem TB.start (w : World) (a b : Dt) : TB w a b ((w.alloc (.cells #[.bool a.g, .string a.s, .int .i64 a.x] 24)).alloc (.cells #[.bool b.g, .string b.s, .int .i64 b.x] 24)) := by
  have e : (w.alloc (.cells #[.bool a.g, .string a.s, .int .i64 a.x] 24)).heap.size = w.heap.size + 1 := by simp
  refine ⟨((Below.refl _ _).alloc (Nat.le_refl _) _).alloc (by simp) _, (Box3.new w _ _ _).more _, ?_⟩
  rw [← e]
  exact Box3.new _ _ _ _
theorem TB.step {w : World} {a b : Dt} {W W' : World} (h : TB w a b W) (hb : Below W.heap.size W W') : TB w a b W' := ⟨below_then h.1 hb, h.2.1.step hb, h.2.2.step hb⟩
theorem TB.more {w : World} {a b : Dt} {W : World} (h : TB w a b W) (o : Obj) : TB w a b (W.alloc o) := h.step ((Below.refl _ _).alloc (Nat.le_refl _) _)
theorem TB.drawn {w : World} {a b : Dt} {W : World} (h : TB w a b W) (n : Nat) : TB w a b (W.drewN n) := h.step (below_drewN (Below.refl _ _) n)
theorem TB.drew {w : World} {a b : Dt} {W : World} (h : TB w a b W) : TB w a b W.drew := h.step (Below.refl _ _).drew
/-- Where the highest one stands. -/
@[irreducible] def topD (d : Dy) : Int := (nd 2 d.n : Nat) - 1 + d.x
theorem topD_eq (d : Dy) : topD d = (nd 2 d.n : Nat) - 1 + d.x := by unfold topD; rfl
@[irreducible] def upN (a b : Dy) : Nat := a.n * 2 ^ (a.x - b.x).toNat
theorem upN_eq (a b : Dy) : upN a b = a.n * 2 ^ (a.x - b.x).toNat := by unfold upN; rfl
@[irreducible] def magC (a b : Dy) : Int := if topD a < topD b then -1 else if topD b < topD a then 1 else cmpN (upN a b) (upN b a)
theorem magC_lt {a b : Dy} (h : topD a < topD b) : magC a b = -1 := by unfold magC; rw [if_pos h]
theorem magC_gt {a b : Dy} (h : topD b < topD a) : magC a b = 1 := by unfold magC; rw [if_neg (by omega), if_pos h]
theorem magC_eq {a b : Dy} (h : topD a = topD b) : magC a b = cmpN (upN a b) (upN b a) := by unfold magC; rw [if_neg (by omega), if_neg (by omega)]
def Dy.t (d : Dy) : Dt := ⟨d.g, natS d.n, d.x⟩
theorem Dy.t_ok {d : Dy} (h : d.Num) : d.t.Ok := Or.inr ⟨d.n, h.1, h.2.1, rfl, h.2.2.1, h.2.2.2⟩
theorem up_fits {a b : Dy} (ha : a.Num) (hb : b.Num) (h : topD a = topD b) (hx : b.x < a.x) : fits (a.n * 2 ^ (a.x - b.x).toNat) ∧ upN a b = a.n * 2 ^ (a.x - b.x).toNat ∧ upN b a = b.n := by
  refine ⟨(fits_shift (odd_ne ha.2.1)).2 ?_, upN_eq a b, ?_⟩
  · have h1 := bits_131072' hb.1
    rw [topD_eq, topD_eq] at h
    omega
  · rw [upN_eq, show (b.x - a.x).toNat = 0 by omega, Nat.pow_zero, Nat.mul_one]
set_option maxRecDepth 100000 in
set_option maxHeartbeats 2000000 in
theorem Dmag_c (a b : Dy) (w : World) (ha : a.Num) (hb : b.Num) :
    Calls Tryd.prog 76 #[.agg #[.bool a.g, .string (natS a.n), .int .i64 a.x], .agg #[.bool b.g, .string (natS b.n), .int .i64 b.x]] w fun e w' => e = .returned (.int .i64 (magC a b)) ∧ Below w.heap.size w w' := by
  have KA := Lib.hid (fun w => DTop_num a.g a.n a.x w ha.1 ha.2.1 ha.2.2.1 ha.2.2.2)
  have KB := Lib.hid (fun w => DTop_num b.g b.n b.x w hb.1 hb.2.1 hb.2.2.1 hb.2.2.2)
  rw [← topD_eq] at KA KB
  have HA := Lib.hid ha
  have HB := Lib.hid hb
  have hxa := ha.2.2
  have hxb := hb.2.2
  have T0 := TB.start w a.t b.t
  unfold Dy.t at T0
  have hcase : topD a < topD b ∨ topD b < topD a ∨ (topD a = topD b ∧ b.x < a.x) ∨ (topD a = topD b ∧ a.x < b.x) ∨ (topD a = topD b ∧ a.x = b.x) := by omega
  clear ha hb
  rcases hcase with h | h | ⟨h, hx⟩ | ⟨h, hx⟩ | ⟨h, hx⟩
  · have HE := Lib.hid (magC_lt h)
    generalize topD a = ta at *
    generalize topD b = tb at *
    go_enter Tryd.func76, Tryd.ntmps76
    go_wp2_with fail
    refine (KA.out _).mono ?_
    rintro e w1 ⟨rfl, hb⟩
    replace T0 := T0.step hb
    obtain ⟨p0, p1, p2, p3, p4, p5, p6⟩ := T0.2.1.facts
    obtain ⟨q0, q1, q2, q3, q4, q5, q6⟩ := T0.2.2.facts
    clear hb
    go_wp2_with fail
    refine (KB.out _).mono ?_
    rintro e w2 ⟨rfl, hb⟩
    replace T0 := T0.step hb
    clear hb p0 p1 p2 p3 p4 p5 p6 q0 q1 q2 q3 q4 q5 q6
    go_wp2_with fail
    go_ret
    exact ⟨by rw [HE.out]; rfl, T0.1⟩
  · have HE := Lib.hid (magC_gt h)
    generalize topD a = ta at *
    generalize topD b = tb at *
    go_enter Tryd.func76, Tryd.ntmps76
    go_wp2_with fail
    refine (KA.out _).mono ?_
    rintro e w1 ⟨rfl, hb⟩
    replace T0 := T0.step hb
    obtain ⟨p0, p1, p2, p3, p4, p5, p6⟩ := T0.2.1.facts
    obtain ⟨q0, q1, q2, q3, q4, q5, q6⟩ := T0.2.2.facts
    clear hb
    go_wp2_with fail
    refine (KB.out _).mono ?_
    rintro e w2 ⟨rfl, hb⟩
    replace T0 := T0.step hb
    clear hb p0 p1 p2 p3 p4 p5 p6 q0 q1 q2 q3 q4 q5 q6
    go_wp2_with fail
    go_ret
    exact ⟨by rw [HE.out]; rfl, T0.1⟩
  · obtain ⟨hf, hu, hv⟩ := up_fits HA.out HB.out h hx
    obtain ⟨j, hj⟩ : ∃ j, j = (a.x - b.x).toNat := ⟨_, rfl⟩
    rw [← hj] at hf hu
    have KS := Lib.hid (fun w => NShift_up a.n j w HA.out.1 (odd_ne HA.out.2.1) (by omega) hf)
    have KC : Hid (∀ w, Calls Tryd.prog 112 #[.string (natS (a.n * 2 ^ j)), .string (natS b.n)] w (IntPost (magC a b) 0 w)) := Lib.hid fun w => by
      rw [magC_eq h]
      rw [hu, hv]
      exact NCmp_c _ _ w hf HB.out.1
    have hjx : a.x - b.x = (j : Int) := by omega
    have hj0 : (0 : Int) < (j : Int) := by omega
    obtain ⟨z, hz⟩ : ∃ z, z = a.n * 2 ^ j := ⟨_, rfl⟩
    rw [← hz] at KS KC
    clear hf hu hv hj hx hz
    rw [h] at KA
    clear h
    generalize topD b = tb at *
    go_enter Tryd.func76, Tryd.ntmps76
    go_wp2_with fail
    refine (KA.out _).mono ?_
    rintro e w1 ⟨rfl, hb⟩
    replace T0 := T0.step hb
    obtain ⟨p0, p1, p2, p3, p4, p5, p6⟩ := T0.2.1.facts
    obtain ⟨q0, q1, q2, q3, q4, q5, q6⟩ := T0.2.2.facts
    clear hb
    go_wp2_with fail
    refine (KB.out _).mono ?_
    rintro e w2 ⟨rfl, hb⟩
    replace T0 := T0.step hb
    clear hb p0 p1 p2 p3 p4 p5 p6 q0 q1 q2 q3 q4 q5 q6
    obtain ⟨p0, p1, p2, p3, p4, p5, p6⟩ := T0.2.1.facts
    obtain ⟨q0, q1, q2, q3, q4, q5, q6⟩ := T0.2.2.facts
    go_wp2_with fail
    go_quiet (fail)
    rename_i nq
    replace T0 := T0.drawn nq
    generalize w2.drewN nq = w3 at *
    clear p0 p1 p2 p3 p4 p5 p6 q0 q1 q2 q3 q4 q5 q6
    obtain ⟨p0, p1, p2, p3, p4, p5, p6⟩ := T0.2.1.facts
    obtain ⟨q0, q1, q2, q3, q4, q5, q6⟩ := T0.2.2.facts
    go_wp2_with (first
      | (go_at_call 65; refine (KS.out _).mono ?_; rintro e w4 ⟨rfl, hb⟩; replace T0 := T0.step hb; clear hb)
      | (go_at_call 112; refine (KC.out _).mono ?_; rintro e w5 ⟨rfl, hb⟩; replace T0 := T0.step hb; clear hb))
    go_ret
    exact ⟨rfl, T0.1⟩
  · obtain ⟨hf, hu, hv⟩ := up_fits HB.out HA.out h.symm hx
    obtain ⟨j, hj⟩ : ∃ j, j = (b.x - a.x).toNat := ⟨_, rfl⟩
    rw [← hj] at hf hu
    have KS := Lib.hid (fun w => NShift_up b.n j w HB.out.1 (odd_ne HB.out.2.1) (by omega) hf)
    have KC : Hid (∀ w, Calls Tryd.prog 112 #[.string (natS a.n), .string (natS (b.n * 2 ^ j))] w (IntPost (magC a b) 0 w)) := Lib.hid fun w => by
      rw [magC_eq h]
      rw [hv, hu]
      exact NCmp_c _ _ w HA.out.1 hf
    have hjx : b.x - a.x = (j : Int) := by omega
    have hj0 : (0 : Int) < (j : Int) := by omega
    obtain ⟨z, hz⟩ : ∃ z, z = b.n * 2 ^ j := ⟨_, rfl⟩
    rw [← hz] at KS KC
    have hjn : a.x - b.x = -(j : Int) := by omega
    have hjm : ¬ (0 : Int) < -(j : Int) := by omega
    clear hf hu hv hj hx hz hjx
    rw [h] at KA
    clear h
    generalize topD b = tb at *
    go_enter Tryd.func76, Tryd.ntmps76
    go_wp2_with fail
    refine (KA.out _).mono ?_
    rintro e w1 ⟨rfl, hb⟩
    replace T0 := T0.step hb
    obtain ⟨p0, p1, p2, p3, p4, p5, p6⟩ := T0.2.1.facts
    obtain ⟨q0, q1, q2, q3, q4, q5, q6⟩ := T0.2.2.facts
    clear hb
    go_wp2_with fail
    refine (KB.out _).mono ?_
    rintro e w2 ⟨rfl, hb⟩
    replace T0 := T0.step hb
    clear hb p0 p1 p2 p3 p4 p5 p6 q0 q1 q2 q3 q4 q5 q6
    obtain ⟨p0, p1, p2, p3, p4, p5, p6⟩ := T0.2.1.facts
    obtain ⟨q0, q1, q2, q3, q4, q5, q6⟩ := T0.2.2.facts
    go_wp2_with fail
    go_quiet (fail)
    rename_i nq
    replace T0 := T0.drawn nq
    generalize w2.drewN nq = w3 at *
    clear p0 p1 p2 p3 p4 p5 p6 q0 q1 q2 q3 q4 q5 q6
    obtain ⟨p0, p1, p2, p3, p4, p5, p6⟩ := T0.2.1.facts
    obtain ⟨q0, q1, q2, q3, q4, q5, q6⟩ := T0.2.2.facts
    go_wp2_with (first
      | (go_at_call 65; refine (KS.out _).mono ?_; rintro e w4 ⟨rfl, hb⟩; replace T0 := T0.step hb; clear hb)
      | (go_at_call 112; refine (KC.out _).mono ?_; rintro e w5 ⟨rfl, hb⟩; replace T0 := T0.step hb; clear hb))
    go_ret
    exact ⟨rfl, T0.1⟩
  · have KS := Lib.hid (fun w => NShift_stay b.n w HB.out.1 (odd_ne HB.out.2.1))
    have KC : Hid (∀ w, Calls Tryd.prog 112 #[.string (natS a.n), .string (natS b.n)] w (IntPost (magC a b) 0 w)) := Lib.hid fun w => by
      rw [magC_eq h, upN_eq, upN_eq, show (a.x - b.x).toNat = 0 by omega, show (b.x - a.x).toNat = 0 by omega, Nat.pow_zero, Nat.mul_one, Nat.mul_one]
      exact NCmp_c _ _ w HA.out.1 HB.out.1
    have hjn : a.x - b.x = 0 := by omega
    rw [h] at KA
    clear h hx
    generalize topD b = tb at *
    go_enter Tryd.func76, Tryd.ntmps76
    go_wp2_with fail
    refine (KA.out _).mono ?_
    rintro e w1 ⟨rfl, hb⟩
    replace T0 := T0.step hb
    obtain ⟨p0, p1, p2, p3, p4, p5, p6⟩ := T0.2.1.facts
    obtain ⟨q0, q1, q2, q3, q4, q5, q6⟩ := T0.2.2.facts
    clear hb
    go_wp2_with fail
    refine (KB.out _).mono ?_
    rintro e w2 ⟨rfl, hb⟩
    replace T0 := T0.step hb
    clear hb p0 p1 p2 p3 p4 p5 p6 q0 q1 q2 q3 q4 q5 q6
    obtain ⟨p0, p1, p2, p3, p4, p5, p6⟩ := T0.2.1.facts
    obtain ⟨q0, q1, q2, q3, q4, q5, q6⟩ := T0.2.2.facts
    go_wp2_with fail
    go_quiet (fail)
    rename_i nq
    replace T0 := T0.drawn nq
    generalize w2.drewN nq = w3 at *
    clear p0 p1 p2 p3 p4 p5 p6 q0 q1 q2 q3 q4 q5 q6
    obtain ⟨p0, p1, p2, p3, p4, p5, p6⟩ := T0.2.1.facts
    obtain ⟨q0, q1, q2, q3, q4, q5, q6⟩ := T0.2.2.facts
    go_wp2_with (first
      | (go_at_call 65; refine (KS.out _).mono ?_; rintro e w4 ⟨rfl, hb⟩; replace T0 := T0.step hb; clear hb)
      | (go_at_call 112; refine (KC.out _).mono ?_; rintro e w5 ⟨rfl, hb⟩; replace T0 := T0.step hb; clear hb))
    go_ret
    exact ⟨rfl, T0.1⟩
end Go.Proofs.YtjkonfopajihdaaDoor
set_option linter.unusedSimpArgs false
set_option linter.unusedVariables false
namespace Go.Proofs.YtjkonfopajihdaaDoor
open Go Go.RowKit Nt

@[irreducible] def sgD (d : Dy) : Int := if d.n = 0 then 0 else sgnI d.g
theorem sgD_zero : sgD Dy.zero = 0 := by unfold sgD Dy.zero; rfl
theorem sgD_num {d : Dy} (h : d.n ≠ 0) : sgD d = sgnI d.g := by unfold sgD; rw [if_neg h]
theorem sgD_ne {d : Dy} (h : d.n ≠ 0) : sgD d ≠ 0 := by rw [sgD_num h]; exact sgn_ne2 d.g
theorem Dy.num_of {d : Dy} (h : d.Ok) (hs : sgD d ≠ 0) : d.Num := by
  rcases h with rfl | h
  · exact absurd sgD_zero hs
  · exact h
theorem Dy.zero_of {d : Dy} (h : d.Ok) (hs : sgD d = 0) : d = Dy.zero := by
  rcases h with rfl | h
  · rfl
  · exact absurd hs (sgD_ne (odd_ne h.2.1))
theorem sgD_b (d : Dy) : sgD d = -1 ∨ sgD d = 0 ∨ sgD d = 1 := by
  unfold sgD
  by_cases h : d.n = 0
  · rw [if_pos h]; exact Or.inr (Or.inl rfl)
  · rw [if_neg h]
    cases d.g
    · exact Or.inr (Or.inr sgn_f)
    · exact Or.inl sgn_t
theorem Dy.ok_t {d : Dy} (h : d.Ok) : d.t.Ok := by
  rcases h with rfl | h
  · exact Or.inl ⟨natS_zero, rfl, rfl⟩
  · exact Dy.t_ok h
theorem Dy.small {d : Dy} (h : d.Ok) : (natS d.n).size ≤ 16384 := Dt.small (Dy.ok_t h)
theorem DSign_c (d : Dy) (h : d.Ok) (w : World) : Calls Tryd.prog 16 #[.agg #[.bool d.g, .string (natS d.n), .int .i64 d.x]] w fun e w' => e = .returned (.int .i64 (sgD d)) ∧ Below w.heap.size w w' := by
  rcases h with rfl | h
  · rw [sgD_zero]
    show Calls _ _ #[.agg #[.bool false, .string (natS 0), .int .i64 0]] _ _
    rw [natS_zero]; exact DSign_zero w
  · rw [sgD_num (odd_ne h.2.1)]
    exact DSign_num d.g d.n d.x w h.1 h.2.1 h.2.2.1 h.2.2.2
@[irreducible] def cmpD (a b : Dy) : Int := if sgD a < sgD b then -1 else if sgD b < sgD a then 1 else if sgD a = 0 then 0 else sgD a * magC a b
theorem cmpD_lt {a b : Dy} (h : sgD a < sgD b) : cmpD a b = -1 := by unfold cmpD; rw [if_pos h]
theorem cmpD_gt {a b : Dy} (h : sgD b < sgD a) : cmpD a b = 1 := by unfold cmpD; rw [if_neg (by omega), if_pos h]
theorem cmpD_zero {a b : Dy} (h : sgD a = sgD b) (h0 : sgD a = 0) : cmpD a b = 0 := by unfold cmpD; rw [if_neg (by omega), if_neg (by omega), if_pos h0]
theorem cmpD_eq {a b : Dy} (h : sgD a = sgD b) (h0 : sgD a ≠ 0) : cmpD a b = sgD a * magC a b := by unfold cmpD; rw [if_neg (by omega), if_neg (by omega), if_neg h0]
theorem cmpD_self (a : Dy) : cmpD a a = 0 := by
  by_cases h : sgD a = 0
  · exact cmpD_zero rfl h
  · rw [cmpD_eq rfl h, magC_eq rfl, cmpN_eq, Int.mul_zero]
theorem magC_b (a b : Dy) : magC a b = -1 ∨ magC a b = 0 ∨ magC a b = 1 := by
  unfold magC cmpN
  split
  · exact Or.inl rfl
  · split
    · exact Or.inr (Or.inr rfl)
    · split
      · exact Or.inl rfl
      · split
        · exact Or.inr (Or.inl rfl)
        · exact Or.inr (Or.inr rfl)
theorem dts2 (W : World) (a b : Dt) (T : TypeId) : Dts (W.alloc (.cells #[.bool a.g, .string a.s, .int .i64 a.x, .bool b.g, .string b.s, .int .i64 b.x] T)) (some ⟨W.heap.size, 0, none⟩) [a, b] := fun _ => by
  refine ⟨_, rfl, by simp, fun j hj => ?_⟩
  have hc : ∀ o, (W.alloc (.cells #[.bool a.g, .string a.s, .int .i64 a.x, .bool b.g, .string b.s, .int .i64 b.x] T)).cell? ⟨W.heap.size, o, none⟩ = #[.bool a.g, .string a.s, .int .i64 a.x, .bool b.g, .string b.s, .int .i64 b.x][o]? := fun o => (Blk.new W T _).cell o
  have hj2 : j = 0 ∨ j = 1 := by simp at hj; omega
  rcases hj2 with rfl | rfl
  · refine ⟨?_, ?_, ?_⟩
    · rw [Nat.zero_mul, add_plain0, hc]; rfl
    · rw [Nat.zero_mul, add_plain0, hc]; rfl
    · rw [Nat.zero_mul, add_plain0, hc]; rfl
  · refine ⟨?_, ?_, ?_⟩
    · rw [Nat.one_mul, add_plain0, hc]; rfl
    · rw [Nat.one_mul, add_plain0, hc]; rfl
    · rw [Nat.one_mul, add_plain0, hc]; rfl
theorem Dall2 (a b : Dt) (W : World) (T : TypeId) (A : Nat) (hA : A = W.heap.size) (ha : a.s.size ≤ 9223372036854775807) (hb : b.s.size ≤ 9223372036854775807) :
    Calls Tryd.prog 75 #[.slice (some ⟨A, 0, none⟩) 2 2] (W.alloc (.cells #[.bool a.g, .string a.s, .int .i64 a.x, .bool b.g, .string b.s, .int .i64 b.x] T)) fun e w' => e = .returned (.int .i64 (dE [a, b])) ∧ Below (W.alloc (.cells #[.bool a.g, .string a.s, .int .i64 a.x, .bool b.g, .string b.s, .int .i64 b.x] T)).heap.size (W.alloc (.cells #[.bool a.g, .string a.s, .int .i64 a.x, .bool b.g, .string b.s, .int .i64 b.x] T)) w' := by
  subst hA
  exact Dall_c _ 2 [a, b] _ (by simp) (fun t ht => by
    rcases List.mem_cons.1 ht with rfl | ht
    · exact ha
    · rw [List.mem_singleton.1 ht]; exact hb) (dts2 W a b T)
set_option maxRecDepth 100000 in
set_option maxHeartbeats 2000000 in
theorem DCmp_bad (a b : Dt) (w : World) (ha : a.s.size ≤ 9223372036854775807) (hb : b.s.size ≤ 9223372036854775807) (hn : ¬ (a.Ok ∧ b.Ok)) :
    Calls Tryd.prog 36 #[.agg #[.bool a.g, .string a.s, .int .i64 a.x], .agg #[.bool b.g, .string b.s, .int .i64 b.x]] w fun e w' => e = .returned (.tuple #[.int .i64 0, .int .i64 2]) ∧ Below w.heap.size w w' := by
  have he : dE [a, b] = 2 := by
    by_cases h : a.Ok
    · exact dE_no (t := b) (by simp) (fun c => hn ⟨h, c⟩)
    · exact dE_no (t := a) (by simp) h
  have KA := Lib.hid (fun W T A hA => Dall2 a b W T A hA ha hb)
  rw [he] at KA
  have T0 := TB.start w a b
  clear ha hb hn he
  go_enter Tryd.func36, Tryd.ntmps36
  go_wp2_with fail
  refine (KA.out _ _ _ (by simp)).mono ?_
  rintro e w1 ⟨rfl, hb⟩
  replace T0 := (T0.more _).step hb
  clear hb
  go_wp2_with fail
  go_ret2
  exact ⟨rfl, T0.1⟩
set_option maxRecDepth 100000 in
set_option maxHeartbeats 2000000 in
theorem DCmp_same (a : Dy) (w : World) (ha : a.Ok) :
    Calls Tryd.prog 36 #[.agg #[.bool a.g, .string (natS a.n), .int .i64 a.x], .agg #[.bool a.g, .string (natS a.n), .int .i64 a.x]] w fun e w' => e = .returned (.tuple #[.int .i64 (cmpD a a), .int .i64 0]) ∧ Below w.heap.size w w' := by
  have he : dE [a.t, a.t] = 0 := dE_ok fun t ht => by
    rcases List.mem_cons.1 ht with rfl | ht
    · exact Dy.ok_t ha
    · rw [List.mem_singleton.1 ht]; exact Dy.ok_t ha
  have KA := Lib.hid (fun W T A hA => Dall2 a.t a.t W T A hA (by have := Dy.small ha; show (natS a.n).size ≤ _; omega) (by have := Dy.small ha; show (natS a.n).size ≤ _; omega))
  rw [he] at KA
  have T0 := TB.start w a.t a.t
  unfold Dy.t at T0 KA
  have HC := Lib.hid (cmpD_self a)
  clear he
  go_enter Tryd.func36, Tryd.ntmps36
  go_wp2_with fail
  refine (KA.out _ _ _ (by simp)).mono ?_
  rintro e w1 ⟨rfl, hb⟩
  replace T0 := (T0.more _).step hb
  clear hb
  obtain ⟨p0, p1, p2, p3, p4, p5, p6⟩ := T0.2.1.facts
  obtain ⟨q0, q1, q2, q3, q4, q5, q6⟩ := T0.2.2.facts
  go_wp2_with fail
  go_ret2
  exact ⟨by rw [HC.out]; rfl, T0.1⟩
theorem ne_toList {m n : Nat} (h : m ≠ n) : ¬ (natS m).toList = (natS n).toList := fun c => h ((natS_list_eq m n).1 c)
theorem sm_wrap {s m : Int} (hs : s = -1 ∨ s = 0 ∨ s = 1) (hm : m = -1 ∨ m = 0 ∨ m = 1) : wrap64 (s * m) = s * m := by
  rcases hs with rfl | rfl | rfl <;> rcases hm with rfl | rfl | rfl <;> exact IntWalk.wrap64_in _ (by decide)
set_option maxRecDepth 100000 in
set_option maxHeartbeats 2000000 in
/-- Cmp of two that are not the same. -/
theorem DCmp_walk (g1 g2 : Bool) (n1 n2 : Nat) (x1 x2 s t m : Int) (w : World)
    (KA : Hid (∀ (W : World) (T : TypeId) (A : Nat), A = W.heap.size → Calls Tryd.prog 75 #[.slice (some ⟨A, 0, none⟩) 2 2] (W.alloc (.cells #[.bool g1, .string (natS n1), .int .i64 x1, .bool g2, .string (natS n2), .int .i64 x2] T)) fun e w' => e = .returned (.int .i64 0) ∧ Below (W.alloc (.cells #[.bool g1, .string (natS n1), .int .i64 x1, .bool g2, .string (natS n2), .int .i64 x2] T)).heap.size (W.alloc (.cells #[.bool g1, .string (natS n1), .int .i64 x1, .bool g2, .string (natS n2), .int .i64 x2] T)) w'))
    (SA : Hid (∀ w, Calls Tryd.prog 16 #[.agg #[.bool g1, .string (natS n1), .int .i64 x1]] w fun e w' => e = .returned (.int .i64 s) ∧ Below w.heap.size w w'))
    (SB : Hid (∀ w, Calls Tryd.prog 16 #[.agg #[.bool g2, .string (natS n2), .int .i64 x2]] w fun e w' => e = .returned (.int .i64 t) ∧ Below w.heap.size w w'))
    (KM : Hid (s = t → ∀ w, Calls Tryd.prog 76 #[.agg #[.bool g1, .string (natS n1), .int .i64 x1], .agg #[.bool g2, .string (natS n2), .int .i64 x2]] w fun e w' => e = .returned (.int .i64 m) ∧ Below w.heap.size w w'))
    (hsm : wrap64 (s * m) = s * m) (hne : ¬ g1 = g2 ∨ (g1 = g2 ∧ n1 ≠ n2) ∨ (g1 = g2 ∧ n1 = n2 ∧ ¬ x1 = x2)) :
    Calls Tryd.prog 36 #[.agg #[.bool g1, .string (natS n1), .int .i64 x1], .agg #[.bool g2, .string (natS n2), .int .i64 x2]] w fun e w' => e = .returned (.tuple #[.int .i64 (if s < t then -1 else if t < s then 1 else s * m), .int .i64 0]) ∧ Below w.heap.size w w' := by
  have T0 := TB.start w ⟨g1, natS n1, x1⟩ ⟨g2, natS n2, x2⟩
  have HSM := Lib.hid hsm
  clear hsm
  have go : ∀ (r : Int), (s < t ∧ r = -1) ∨ (¬ s < t ∧ t < s ∧ r = 1) ∨ (s = t ∧ r = s * m) → Calls Tryd.prog 36 #[.agg #[.bool g1, .string (natS n1), .int .i64 x1], .agg #[.bool g2, .string (natS n2), .int .i64 x2]] w fun e w' => e = .returned (.tuple #[.int .i64 r, .int .i64 0]) ∧ Below w.heap.size w w' := by
    intro r hr
    rcases hne with hg | ⟨hg, hn⟩ | ⟨hg, hn, hx⟩
    · skip
      rcases hr with ⟨h1, rfl⟩ | ⟨h0, h1, rfl⟩ | ⟨rfl, rfl⟩
      · go_enter Tryd.func36, Tryd.ntmps36
        go_wp2_with fail
        refine (KA.out _ _ _ (by simp)).mono ?_
        rintro e w1 ⟨rfl, hb⟩
        replace T0 := (T0.more _).step hb
        clear hb
        obtain ⟨p0, p1, p2, p3, p4, p5, p6⟩ := T0.2.1.facts
        obtain ⟨q0, q1, q2, q3, q4, q5, q6⟩ := T0.2.2.facts
        go_wp2_with fail
        clear p0 p1 p2 p3 p4 p5 p6 q0 q1 q2 q3 q4 q5 q6
        have L0 := fun W (h : TB w ⟨g1, natS n1, x1⟩ ⟨g2, natS n2, x2⟩ W) => h.2.1.facts.2.1
        have L1 := fun W (h : TB w ⟨g1, natS n1, x1⟩ ⟨g2, natS n2, x2⟩ W) => h.2.1.facts.2.2.1
        have L2 := fun W (h : TB w ⟨g1, natS n1, x1⟩ ⟨g2, natS n2, x2⟩ W) => h.2.1.facts.2.2.2.1
        have L3 := fun W (h : TB w ⟨g1, natS n1, x1⟩ ⟨g2, natS n2, x2⟩ W) => h.2.2.facts.2.1
        have L4 := fun W (h : TB w ⟨g1, natS n1, x1⟩ ⟨g2, natS n2, x2⟩ W) => h.2.2.facts.2.2.1
        have L5 := fun W (h : TB w ⟨g1, natS n1, x1⟩ ⟨g2, natS n2, x2⟩ W) => h.2.2.facts.2.2.2.1
        go_region_held3 (TB w ⟨g1, natS n1, x1⟩ ⟨g2, natS n2, x2⟩) (first | assumption | exact TB.step (by assumption) (by assumption) | exact TB.drew (by assumption) | exact TB.drawn (by assumption) _)
          (first
            | (go_at_call 16; with_reducible refine (SA.out _).mono ?_; rintro e w' ⟨rfl, hb7⟩)
            | (go_at_call 16; with_reducible refine (SB.out _).mono ?_; rintro e w' ⟨rfl, hb7⟩))
        rename_i hHeld
        clear T0 L0 L1 L2 L3 L4 L5
        obtain ⟨p0, p1, p2, p3, p4, p5, p6⟩ := hHeld.2.1.facts
        obtain ⟨q0, q1, q2, q3, q4, q5, q6⟩ := hHeld.2.2.facts
        go_wp2_with fail
        go_ret2
        exact ⟨rfl, hHeld.1⟩
      · go_enter Tryd.func36, Tryd.ntmps36
        go_wp2_with fail
        refine (KA.out _ _ _ (by simp)).mono ?_
        rintro e w1 ⟨rfl, hb⟩
        replace T0 := (T0.more _).step hb
        clear hb
        obtain ⟨p0, p1, p2, p3, p4, p5, p6⟩ := T0.2.1.facts
        obtain ⟨q0, q1, q2, q3, q4, q5, q6⟩ := T0.2.2.facts
        go_wp2_with fail
        clear p0 p1 p2 p3 p4 p5 p6 q0 q1 q2 q3 q4 q5 q6
        have L0 := fun W (h : TB w ⟨g1, natS n1, x1⟩ ⟨g2, natS n2, x2⟩ W) => h.2.1.facts.2.1
        have L1 := fun W (h : TB w ⟨g1, natS n1, x1⟩ ⟨g2, natS n2, x2⟩ W) => h.2.1.facts.2.2.1
        have L2 := fun W (h : TB w ⟨g1, natS n1, x1⟩ ⟨g2, natS n2, x2⟩ W) => h.2.1.facts.2.2.2.1
        have L3 := fun W (h : TB w ⟨g1, natS n1, x1⟩ ⟨g2, natS n2, x2⟩ W) => h.2.2.facts.2.1
        have L4 := fun W (h : TB w ⟨g1, natS n1, x1⟩ ⟨g2, natS n2, x2⟩ W) => h.2.2.facts.2.2.1
        have L5 := fun W (h : TB w ⟨g1, natS n1, x1⟩ ⟨g2, natS n2, x2⟩ W) => h.2.2.facts.2.2.2.1
        go_region_held3 (TB w ⟨g1, natS n1, x1⟩ ⟨g2, natS n2, x2⟩) (first | assumption | exact TB.step (by assumption) (by assumption) | exact TB.drew (by assumption) | exact TB.drawn (by assumption) _)
          (first
            | (go_at_call 16; with_reducible refine (SA.out _).mono ?_; rintro e w' ⟨rfl, hb7⟩)
            | (go_at_call 16; with_reducible refine (SB.out _).mono ?_; rintro e w' ⟨rfl, hb7⟩))
        rename_i hHeld
        clear T0 L0 L1 L2 L3 L4 L5
        obtain ⟨p0, p1, p2, p3, p4, p5, p6⟩ := hHeld.2.1.facts
        obtain ⟨q0, q1, q2, q3, q4, q5, q6⟩ := hHeld.2.2.facts
        go_wp2_with fail
        go_ret2
        exact ⟨rfl, hHeld.1⟩
      · have KG := Lib.hid (KM.out rfl)
        go_enter Tryd.func36, Tryd.ntmps36
        go_wp2_with fail
        refine (KA.out _ _ _ (by simp)).mono ?_
        rintro e w1 ⟨rfl, hb⟩
        replace T0 := (T0.more _).step hb
        clear hb
        obtain ⟨p0, p1, p2, p3, p4, p5, p6⟩ := T0.2.1.facts
        obtain ⟨q0, q1, q2, q3, q4, q5, q6⟩ := T0.2.2.facts
        go_wp2_with fail
        clear p0 p1 p2 p3 p4 p5 p6 q0 q1 q2 q3 q4 q5 q6
        have L0 := fun W (h : TB w ⟨g1, natS n1, x1⟩ ⟨g2, natS n2, x2⟩ W) => h.2.1.facts.2.1
        have L1 := fun W (h : TB w ⟨g1, natS n1, x1⟩ ⟨g2, natS n2, x2⟩ W) => h.2.1.facts.2.2.1
        have L2 := fun W (h : TB w ⟨g1, natS n1, x1⟩ ⟨g2, natS n2, x2⟩ W) => h.2.1.facts.2.2.2.1
        have L3 := fun W (h : TB w ⟨g1, natS n1, x1⟩ ⟨g2, natS n2, x2⟩ W) => h.2.2.facts.2.1
        have L4 := fun W (h : TB w ⟨g1, natS n1, x1⟩ ⟨g2, natS n2, x2⟩ W) => h.2.2.facts.2.2.1
        have L5 := fun W (h : TB w ⟨g1, natS n1, x1⟩ ⟨g2, natS n2, x2⟩ W) => h.2.2.facts.2.2.2.1
        go_region_held3 (TB w ⟨g1, natS n1, x1⟩ ⟨g2, natS n2, x2⟩) (first | assumption | exact TB.step (by assumption) (by assumption) | exact TB.drew (by assumption) | exact TB.drawn (by assumption) _)
          (first
            | (go_at_call 16; with_reducible refine (SA.out _).mono ?_; rintro e w' ⟨rfl, hb7⟩)
            | (go_at_call 16; with_reducible refine (SB.out _).mono ?_; rintro e w' ⟨rfl, hb7⟩))
        rename_i hHeld
        clear T0 L0 L1 L2 L3 L4 L5
        obtain ⟨p0, p1, p2, p3, p4, p5, p6⟩ := hHeld.2.1.facts
        obtain ⟨q0, q1, q2, q3, q4, q5, q6⟩ := hHeld.2.2.facts
        go_wp2_with fail
        refine (KG.out _).mono ?_
        rintro e w2 ⟨rfl, hb⟩
        go_wp2_with fail
        go_ret2
        refine ⟨?_, (hHeld.step hb).1⟩
        show Ending.returned (.tuple #[.int .i64 (wrap64 (s * m)), .int .i64 0]) = _
        rw [HSM.out]
    · subst hg
      have hl := ne_toList hn
      rcases hr with ⟨h1, rfl⟩ | ⟨h0, h1, rfl⟩ | ⟨rfl, rfl⟩
      · go_enter Tryd.func36, Tryd.ntmps36
        go_wp2_with fail
        refine (KA.out _ _ _ (by simp)).mono ?_
        rintro e w1 ⟨rfl, hb⟩
        replace T0 := (T0.more _).step hb
        clear hb
        obtain ⟨p0, p1, p2, p3, p4, p5, p6⟩ := T0.2.1.facts
        obtain ⟨q0, q1, q2, q3, q4, q5, q6⟩ := T0.2.2.facts
        go_wp2_with fail
        clear p0 p1 p2 p3 p4 p5 p6 q0 q1 q2 q3 q4 q5 q6
        have L0 := fun W (h : TB w ⟨g1, natS n1, x1⟩ ⟨g1, natS n2, x2⟩ W) => h.2.1.facts.2.1
        have L1 := fun W (h : TB w ⟨g1, natS n1, x1⟩ ⟨g1, natS n2, x2⟩ W) => h.2.1.facts.2.2.1
        have L2 := fun W (h : TB w ⟨g1, natS n1, x1⟩ ⟨g1, natS n2, x2⟩ W) => h.2.1.facts.2.2.2.1
        have L3 := fun W (h : TB w ⟨g1, natS n1, x1⟩ ⟨g1, natS n2, x2⟩ W) => h.2.2.facts.2.1
        have L4 := fun W (h : TB w ⟨g1, natS n1, x1⟩ ⟨g1, natS n2, x2⟩ W) => h.2.2.facts.2.2.1
        have L5 := fun W (h : TB w ⟨g1, natS n1, x1⟩ ⟨g1, natS n2, x2⟩ W) => h.2.2.facts.2.2.2.1
        go_region_held3 (TB w ⟨g1, natS n1, x1⟩ ⟨g1, natS n2, x2⟩) (first | assumption | exact TB.step (by assumption) (by assumption) | exact TB.drew (by assumption) | exact TB.drawn (by assumption) _)
          (first
            | (go_at_call 16; with_reducible refine (SA.out _).mono ?_; rintro e w' ⟨rfl, hb7⟩)
            | (go_at_call 16; with_reducible refine (SB.out _).mono ?_; rintro e w' ⟨rfl, hb7⟩))
        rename_i hHeld
        clear T0 L0 L1 L2 L3 L4 L5
        obtain ⟨p0, p1, p2, p3, p4, p5, p6⟩ := hHeld.2.1.facts
        obtain ⟨q0, q1, q2, q3, q4, q5, q6⟩ := hHeld.2.2.facts
        go_wp2_with fail
        go_ret2
        exact ⟨rfl, hHeld.1⟩
      · go_enter Tryd.func36, Tryd.ntmps36
        go_wp2_with fail
        refine (KA.out _ _ _ (by simp)).mono ?_
        rintro e w1 ⟨rfl, hb⟩
        replace T0 := (T0.more _).step hb
        clear hb
        obtain ⟨p0, p1, p2, p3, p4, p5, p6⟩ := T0.2.1.facts
        obtain ⟨q0, q1, q2, q3, q4, q5, q6⟩ := T0.2.2.facts
        go_wp2_with fail
        clear p0 p1 p2 p3 p4 p5 p6 q0 q1 q2 q3 q4 q5 q6
        have L0 := fun W (h : TB w ⟨g1, natS n1, x1⟩ ⟨g1, natS n2, x2⟩ W) => h.2.1.facts.2.1
        have L1 := fun W (h : TB w ⟨g1, natS n1, x1⟩ ⟨g1, natS n2, x2⟩ W) => h.2.1.facts.2.2.1
        have L2 := fun W (h : TB w ⟨g1, natS n1, x1⟩ ⟨g1, natS n2, x2⟩ W) => h.2.1.facts.2.2.2.1
        have L3 := fun W (h : TB w ⟨g1, natS n1, x1⟩ ⟨g1, natS n2, x2⟩ W) => h.2.2.facts.2.1
        have L4 := fun W (h : TB w ⟨g1, natS n1, x1⟩ ⟨g1, natS n2, x2⟩ W) => h.2.2.facts.2.2.1
        have L5 := fun W (h : TB w ⟨g1, natS n1, x1⟩ ⟨g1, natS n2, x2⟩ W) => h.2.2.facts.2.2.2.1
        go_region_held3 (TB w ⟨g1, natS n1, x1⟩ ⟨g1, natS n2, x2⟩) (first | assumption | exact TB.step (by assumption) (by assumption) | exact TB.drew (by assumption) | exact TB.drawn (by assumption) _)
          (first
            | (go_at_call 16; with_reducible refine (SA.out _).mono ?_; rintro e w' ⟨rfl, hb7⟩)
            | (go_at_call 16; with_reducible refine (SB.out _).mono ?_; rintro e w' ⟨rfl, hb7⟩))
        rename_i hHeld
        clear T0 L0 L1 L2 L3 L4 L5
        obtain ⟨p0, p1, p2, p3, p4, p5, p6⟩ := hHeld.2.1.facts
        obtain ⟨q0, q1, q2, q3, q4, q5, q6⟩ := hHeld.2.2.facts
        go_wp2_with fail
        go_ret2
        exact ⟨rfl, hHeld.1⟩
      · have KG := Lib.hid (KM.out rfl)
        go_enter Tryd.func36, Tryd.ntmps36
        go_wp2_with fail
        refine (KA.out _ _ _ (by simp)).mono ?_
        rintro e w1 ⟨rfl, hb⟩
        replace T0 := (T0.more _).step hb
        clear hb
        obtain ⟨p0, p1, p2, p3, p4, p5, p6⟩ := T0.2.1.facts
        obtain ⟨q0, q1, q2, q3, q4, q5, q6⟩ := T0.2.2.facts
        go_wp2_with fail
        clear p0 p1 p2 p3 p4 p5 p6 q0 q1 q2 q3 q4 q5 q6
        have L0 := fun W (h : TB w ⟨g1, natS n1, x1⟩ ⟨g1, natS n2, x2⟩ W) => h.2.1.facts.2.1
        have L1 := fun W (h : TB w ⟨g1, natS n1, x1⟩ ⟨g1, natS n2, x2⟩ W) => h.2.1.facts.2.2.1
        have L2 := fun W (h : TB w ⟨g1, natS n1, x1⟩ ⟨g1, natS n2, x2⟩ W) => h.2.1.facts.2.2.2.1
        have L3 := fun W (h : TB w ⟨g1, natS n1, x1⟩ ⟨g1, natS n2, x2⟩ W) => h.2.2.facts.2.1
        have L4 := fun W (h : TB w ⟨g1, natS n1, x1⟩ ⟨g1, natS n2, x2⟩ W) => h.2.2.facts.2.2.1
        have L5 := fun W (h : TB w ⟨g1, natS n1, x1⟩ ⟨g1, natS n2, x2⟩ W) => h.2.2.facts.2.2.2.1
        go_region_held3 (TB w ⟨g1, natS n1, x1⟩ ⟨g1, natS n2, x2⟩) (first | assumption | exact TB.step (by assumption) (by assumption) | exact TB.drew (by assumption) | exact TB.drawn (by assumption) _)
          (first
            | (go_at_call 16; with_reducible refine (SA.out _).mono ?_; rintro e w' ⟨rfl, hb7⟩)
            | (go_at_call 16; with_reducible refine (SB.out _).mono ?_; rintro e w' ⟨rfl, hb7⟩))
        rename_i hHeld
        clear T0 L0 L1 L2 L3 L4 L5
        obtain ⟨p0, p1, p2, p3, p4, p5, p6⟩ := hHeld.2.1.facts
        obtain ⟨q0, q1, q2, q3, q4, q5, q6⟩ := hHeld.2.2.facts
        go_wp2_with fail
        refine (KG.out _).mono ?_
        rintro e w2 ⟨rfl, hb⟩
        go_wp2_with fail
        go_ret2
        refine ⟨?_, (hHeld.step hb).1⟩
        show Ending.returned (.tuple #[.int .i64 (wrap64 (s * m)), .int .i64 0]) = _
        rw [HSM.out]
    · subst hg hn
      rcases hr with ⟨h1, rfl⟩ | ⟨h0, h1, rfl⟩ | ⟨rfl, rfl⟩
      · go_enter Tryd.func36, Tryd.ntmps36
        go_wp2_with fail
        refine (KA.out _ _ _ (by simp)).mono ?_
        rintro e w1 ⟨rfl, hb⟩
        replace T0 := (T0.more _).step hb
        clear hb
        obtain ⟨p0, p1, p2, p3, p4, p5, p6⟩ := T0.2.1.facts
        obtain ⟨q0, q1, q2, q3, q4, q5, q6⟩ := T0.2.2.facts
        go_wp2_with fail
        clear p0 p1 p2 p3 p4 p5 p6 q0 q1 q2 q3 q4 q5 q6
        have L0 := fun W (h : TB w ⟨g1, natS n1, x1⟩ ⟨g1, natS n1, x2⟩ W) => h.2.1.facts.2.1
        have L1 := fun W (h : TB w ⟨g1, natS n1, x1⟩ ⟨g1, natS n1, x2⟩ W) => h.2.1.facts.2.2.1
        have L2 := fun W (h : TB w ⟨g1, natS n1, x1⟩ ⟨g1, natS n1, x2⟩ W) => h.2.1.facts.2.2.2.1
        have L3 := fun W (h : TB w ⟨g1, natS n1, x1⟩ ⟨g1, natS n1, x2⟩ W) => h.2.2.facts.2.1
        have L4 := fun W (h : TB w ⟨g1, natS n1, x1⟩ ⟨g1, natS n1, x2⟩ W) => h.2.2.facts.2.2.1
        have L5 := fun W (h : TB w ⟨g1, natS n1, x1⟩ ⟨g1, natS n1, x2⟩ W) => h.2.2.facts.2.2.2.1
        go_region_held3 (TB w ⟨g1, natS n1, x1⟩ ⟨g1, natS n1, x2⟩) (first | assumption | exact TB.step (by assumption) (by assumption) | exact TB.drew (by assumption) | exact TB.drawn (by assumption) _)
          (first
            | (go_at_call 16; with_reducible refine (SA.out _).mono ?_; rintro e w' ⟨rfl, hb7⟩)
            | (go_at_call 16; with_reducible refine (SB.out _).mono ?_; rintro e w' ⟨rfl, hb7⟩))
        rename_i hHeld
        clear T0 L0 L1 L2 L3 L4 L5
        obtain ⟨p0, p1, p2, p3, p4, p5, p6⟩ := hHeld.2.1.facts
        obtain ⟨q0, q1, q2, q3, q4, q5, q6⟩ := hHeld.2.2.facts
        go_wp2_with fail
        go_ret2
        exact ⟨rfl, hHeld.1⟩
      · go_enter Tryd.func36, Tryd.ntmps36
        go_wp2_with fail
        refine (KA.out _ _ _ (by simp)).mono ?_
        rintro e w1 ⟨rfl, hb⟩
        replace T0 := (T0.more _).step hb
        clear hb
        obtain ⟨p0, p1, p2, p3, p4, p5, p6⟩ := T0.2.1.facts
        obtain ⟨q0, q1, q2, q3, q4, q5, q6⟩ := T0.2.2.facts
        go_wp2_with fail
        clear p0 p1 p2 p3 p4 p5 p6 q0 q1 q2 q3 q4 q5 q6
        have L0 := fun W (h : TB w ⟨g1, natS n1, x1⟩ ⟨g1, natS n1, x2⟩ W) => h.2.1.facts.2.1
        have L1 := fun W (h : TB w ⟨g1, natS n1, x1⟩ ⟨g1, natS n1, x2⟩ W) => h.2.1.facts.2.2.1
        have L2 := fun W (h : TB w ⟨g1, natS n1, x1⟩ ⟨g1, natS n1, x2⟩ W) => h.2.1.facts.2.2.2.1
        have L3 := fun W (h : TB w ⟨g1, natS n1, x1⟩ ⟨g1, natS n1, x2⟩ W) => h.2.2.facts.2.1
        have L4 := fun W (h : TB w ⟨g1, natS n1, x1⟩ ⟨g1, natS n1, x2⟩ W) => h.2.2.facts.2.2.1
        have L5 := fun W (h : TB w ⟨g1, natS n1, x1⟩ ⟨g1, natS n1, x2⟩ W) => h.2.2.facts.2.2.2.1
        go_region_held3 (TB w ⟨g1, natS n1, x1⟩ ⟨g1, natS n1, x2⟩) (first | assumption | exact TB.step (by assumption) (by assumption) | exact TB.drew (by assumption) | exact TB.drawn (by assumption) _)
          (first
            | (go_at_call 16; with_reducible refine (SA.out _).mono ?_; rintro e w' ⟨rfl, hb7⟩)
            | (go_at_call 16; with_reducible refine (SB.out _).mono ?_; rintro e w' ⟨rfl, hb7⟩))
        rename_i hHeld
        clear T0 L0 L1 L2 L3 L4 L5
        obtain ⟨p0, p1, p2, p3, p4, p5, p6⟩ := hHeld.2.1.facts
        obtain ⟨q0, q1, q2, q3, q4, q5, q6⟩ := hHeld.2.2.facts
        go_wp2_with fail
        go_ret2
        exact ⟨rfl, hHeld.1⟩
      · have KG := Lib.hid (KM.out rfl)
        go_enter Tryd.func36, Tryd.ntmps36
        go_wp2_with fail
        refine (KA.out _ _ _ (by simp)).mono ?_
        rintro e w1 ⟨rfl, hb⟩
        replace T0 := (T0.more _).step hb
        clear hb
        obtain ⟨p0, p1, p2, p3, p4, p5, p6⟩ := T0.2.1.facts
        obtain ⟨q0, q1, q2, q3, q4, q5, q6⟩ := T0.2.2.facts
        go_wp2_with fail
        clear p0 p1 p2 p3 p4 p5 p6 q0 q1 q2 q3 q4 q5 q6
        have L0 := fun W (h : TB w ⟨g1, natS n1, x1⟩ ⟨g1, natS n1, x2⟩ W) => h.2.1.facts.2.1
        have L1 := fun W (h : TB w ⟨g1, natS n1, x1⟩ ⟨g1, natS n1, x2⟩ W) => h.2.1.facts.2.2.1
        have L2 := fun W (h : TB w ⟨g1, natS n1, x1⟩ ⟨g1, natS n1, x2⟩ W) => h.2.1.facts.2.2.2.1
        have L3 := fun W (h : TB w ⟨g1, natS n1, x1⟩ ⟨g1, natS n1, x2⟩ W) => h.2.2.facts.2.1
        have L4 := fun W (h : TB w ⟨g1, natS n1, x1⟩ ⟨g1, natS n1, x2⟩ W) => h.2.2.facts.2.2.1
        have L5 := fun W (h : TB w ⟨g1, natS n1, x1⟩ ⟨g1, natS n1, x2⟩ W) => h.2.2.facts.2.2.2.1
        go_region_held3 (TB w ⟨g1, natS n1, x1⟩ ⟨g1, natS n1, x2⟩) (first | assumption | exact TB.step (by assumption) (by assumption) | exact TB.drew (by assumption) | exact TB.drawn (by assumption) _)
          (first
            | (go_at_call 16; with_reducible refine (SA.out _).mono ?_; rintro e w' ⟨rfl, hb7⟩)
            | (go_at_call 16; with_reducible refine (SB.out _).mono ?_; rintro e w' ⟨rfl, hb7⟩))
        rename_i hHeld
        clear T0 L0 L1 L2 L3 L4 L5
        obtain ⟨p0, p1, p2, p3, p4, p5, p6⟩ := hHeld.2.1.facts
        obtain ⟨q0, q1, q2, q3, q4, q5, q6⟩ := hHeld.2.2.facts
        go_wp2_with fail
        refine (KG.out _).mono ?_
        rintro e w2 ⟨rfl, hb⟩
        go_wp2_with fail
        go_ret2
        refine ⟨?_, (hHeld.step hb).1⟩
        show Ending.returned (.tuple #[.int .i64 (wrap64 (s * m)), .int .i64 0]) = _
        rw [HSM.out]
  by_cases h1 : s < t
  · rw [if_pos h1]; exact go _ (Or.inl ⟨h1, rfl⟩)
  · rw [if_neg h1]
    by_cases h2 : t < s
    · rw [if_pos h2]; exact go _ (Or.inr (Or.inl ⟨h1, h2, rfl⟩))
    · rw [if_neg h2]; exact go _ (Or.inr (Or.inr ⟨by omega, rfl⟩))
theorem DCmp_c (a b : Dy) (w : World) (ha : a.Ok) (hb : b.Ok) :
    Calls Tryd.prog 36 #[.agg #[.bool a.g, .string (natS a.n), .int .i64 a.x], .agg #[.bool b.g, .string (natS b.n), .int .i64 b.x]] w fun e w' => e = .returned (.tuple #[.int .i64 (cmpD a b), .int .i64 0]) ∧ Below w.heap.size w w' := by
  by_cases hab : a = b
  · subst hab; exact DCmp_same a w ha
  · have he : dE [a.t, b.t] = 0 := dE_ok fun t ht => by
      rcases List.mem_cons.1 ht with rfl | ht
      · exact Dy.ok_t ha
      · rw [List.mem_singleton.1 ht]; exact Dy.ok_t hb
    have KA := Lib.hid (fun W T A hA => Dall2 a.t b.t W T A hA (by have := Dy.small ha; show (natS a.n).size ≤ _; omega) (by have := Dy.small hb; show (natS b.n).size ≤ _; omega))
    rw [he] at KA
    have hsb := sgD_b a
    have hmb := magC_b a b
    have hdis : ¬ a.g = b.g ∨ (a.g = b.g ∧ a.n ≠ b.n) ∨ (a.g = b.g ∧ a.n = b.n ∧ ¬ a.x = b.x) := by
      by_cases h1 : a.g = b.g
      · by_cases h2 : a.n = b.n
        · refine Or.inr (Or.inr ⟨h1, h2, fun h3 => hab ?_⟩)
          obtain ⟨g, n, x⟩ := a
          obtain ⟨g', n', x'⟩ := b
          simp only at h1 h2 h3
          rw [h1, h2, h3]
        · exact Or.inr (Or.inl ⟨h1, h2⟩)
      · exact Or.inl h1
    have K := DCmp_walk a.g b.g a.n b.n a.x b.x (sgD a) (sgD b) (if sgD a = 0 then 0 else magC a b) w KA (Lib.hid fun w => DSign_c a ha w) (Lib.hid fun w => DSign_c b hb w)
      (Lib.hid fun h w => by
        by_cases h0 : sgD a = 0
        · exfalso
          apply hab
          rw [Dy.zero_of ha h0, Dy.zero_of hb (h ▸ h0)]
        · rw [if_neg h0]
          exact Dmag_c a b w (Dy.num_of ha h0) (Dy.num_of hb (h ▸ h0)))
      (sm_wrap hsb (by split <;> omega)) hdis
    have e : (if sgD a < sgD b then -1 else if sgD b < sgD a then 1 else sgD a * (if sgD a = 0 then 0 else magC a b)) = cmpD a b := by
      by_cases h1 : sgD a < sgD b
      · rw [if_pos h1, cmpD_lt h1]
      · rw [if_neg h1]
        by_cases h2 : sgD b < sgD a
        · rw [if_pos h2, cmpD_gt h2]
        · rw [if_neg h2]
          by_cases h3 : sgD a = 0
          · rw [if_pos h3, h3, Int.mul_zero, cmpD_zero (by omega) h3]
          · rw [if_neg h3, cmpD_eq (by omega) h3]
    rw [e] at K
    exact K
end Go.Proofs.YtjkonfopajihdaaDoor
set_option linter.unusedSimpArgs false
set_option linter.unusedVariables false
namespace Go.Proofs.YtjkonfopajihdaaDoor
open Go Go.RowKit Nt

theorem rSignD3_c (d : Dy) (h : d.Ok) (w : World) : Calls Tryd.prog 21 #[.agg #[.bool d.g, .string (natS d.n), .int .i64 d.x]] w fun e w' => e = .returned (.int .i64 (sgD d)) ∧ Below w.heap.size w w' := by
  rcases h with rfl | h
  · rw [sgD_zero]
    show Calls _ _ #[.agg #[.bool false, .string (natS 0), .int .i64 0]] _ _
    rw [natS_zero]; exact rSign3_zero w
  · rw [sgD_num (odd_ne h.2.1)]
    exact rSign3_num d.g d.n d.x w (odd_ne h.2.1)
/-- The signs differ, or both are 0. -/
theorem rCmpD3_sgn (a b : Dy) (w : World) (ha : a.Ok) (hb : b.Ok) (r : Int) (hr : (sgD a < sgD b ∧ r = -1) ∨ (¬ sgD a < sgD b ∧ sgD b < sgD a ∧ r = 1) ∨ (sgD a = 0 ∧ sgD b = 0 ∧ r = 0)) :
    Calls Tryd.prog 39 #[.agg #[.bool a.g, .string (natS a.n), .int .i64 a.x], .agg #[.bool b.g, .string (natS b.n), .int .i64 b.x]] w fun e w' => e = .returned (.int .i64 r) ∧ Below w.heap.size w w' := by
  have T0 := TB.start w a.t b.t
  have SA := Lib.hid (fun w => rSignD3_c a ha w)
  have SB := Lib.hid (fun w => rSignD3_c b hb w)
  have hr2 : (((sgD a : Int) != sgD b) = true ∧ ((sgD a < sgD b ∧ r = -1) ∨ (¬ sgD a < sgD b ∧ sgD b < sgD a ∧ r = 1))) ∨ (sgD a = 0 ∧ sgD b = 0 ∧ r = 0) := by
    rcases hr with ⟨h1, h2⟩ | ⟨h1, h2, h3⟩ | h
    · exact Or.inl ⟨by rw [bne_iff_ne]; omega, Or.inl ⟨h1, h2⟩⟩
    · exact Or.inl ⟨by rw [bne_iff_ne]; omega, Or.inr ⟨h1, h2, h3⟩⟩
    · exact Or.inr h
  clear hr ha hb
  obtain ⟨g1, n1, x1⟩ := a
  obtain ⟨g2, n2, x2⟩ := b
  simp only [Dy.t] at T0 SA SB ⊢
  generalize sgD ⟨g1, n1, x1⟩ = s at *
  generalize sgD ⟨g2, n2, x2⟩ = t at *
  rcases hr2 with ⟨h0, ⟨h1, rfl⟩ | ⟨h1, h2, rfl⟩⟩ | ⟨rfl, rfl, rfl⟩
  all_goals
    go_enter Tryd.func39, Tryd.ntmps39
    go_wp2_with fail
    have L0 := fun W (h : TB w ⟨g1, natS n1, x1⟩ ⟨g2, natS n2, x2⟩ W) => h.2.1.facts.2.1
    have L1 := fun W (h : TB w ⟨g1, natS n1, x1⟩ ⟨g2, natS n2, x2⟩ W) => h.2.1.facts.2.2.1
    have L2 := fun W (h : TB w ⟨g1, natS n1, x1⟩ ⟨g2, natS n2, x2⟩ W) => h.2.1.facts.2.2.2.1
    have L3 := fun W (h : TB w ⟨g1, natS n1, x1⟩ ⟨g2, natS n2, x2⟩ W) => h.2.2.facts.2.1
    have L4 := fun W (h : TB w ⟨g1, natS n1, x1⟩ ⟨g2, natS n2, x2⟩ W) => h.2.2.facts.2.2.1
    have L5 := fun W (h : TB w ⟨g1, natS n1, x1⟩ ⟨g2, natS n2, x2⟩ W) => h.2.2.facts.2.2.2.1
    go_region_held3 (TB w ⟨g1, natS n1, x1⟩ ⟨g2, natS n2, x2⟩) (first | assumption | exact TB.step (by assumption) (by assumption) | exact TB.drew (by assumption) | exact TB.drawn (by assumption) _)
      (first
        | (go_at_call 21; with_reducible refine (SA.out _).mono ?_; rintro e w' ⟨rfl, hb7⟩)
        | (go_at_call 21; with_reducible refine (SB.out _).mono ?_; rintro e w' ⟨rfl, hb7⟩))
    rename_i hHeld
    clear T0 L0 L1 L2 L3 L4 L5
    go_wp2_with fail
    go_ret
    exact ⟨rfl, hHeld.1⟩
theorem neg_sgn {s : Int} (h : s = -1 ∨ s = 0 ∨ s = 1) : wrap64 (-s) = -s := by rcases h with rfl | rfl | rfl <;> exact IntWalk.wrap64_in _ (by decide)
set_option maxRecDepth 100000 in
set_option maxHeartbeats 2000000 in
theorem rCmpD3_num (a b : Dy) (w : World) (ha : a.Num) (hb : b.Num) (hs : sgD a = sgD b) :
    Calls Tryd.prog 39 #[.agg #[.bool a.g, .string (natS a.n), .int .i64 a.x], .agg #[.bool b.g, .string (natS b.n), .int .i64 b.x]] w fun e w' => e = .returned (.int .i64 (sgD a * magC a b)) ∧ Below w.heap.size w w' := by
  have hna := odd_ne ha.2.1
  have hnb := odd_ne hb.2.1
  have T0 := TB.start w a.t b.t
  have SA := Lib.hid (fun w => rSignD3_c a (Or.inr ha) w)
  have SB := Lib.hid (fun w => rSignD3_c b (Or.inr hb) w)
  rw [← hs] at SB
  have hs0 := sgD_ne hna
  have hs1 : ((sgD a : Int) == 0) = false := by rw [beq_eq_false_iff_ne]; exact hs0
  have KA := Lib.hid (fun w => rTop3_num a.g a.n a.x w ha.1 hna ha.2.2.1 ha.2.2.2)
  have KB := Lib.hid (fun w => rTop3_num b.g b.n b.x w hb.1 hnb hb.2.2.1 hb.2.2.2)
  rw [← topD_eq] at KA KB
  have HSB := Lib.hid (neg_sgn (sgD_b a))
  have HSM := Lib.hid (sm_wrap (sgD_b a) (magC_b a b))
  have hfa : nd 256 a.n ≤ 16384 := ha.1
  have hfb : nd 256 b.n ≤ 16384 := hb.1
  have KO := Lib.hid (fun w => rOf3_c a.n w (by omega))
  have KP := Lib.hid (fun w => rOf3_c b.n w (by omega))
  have hxa := ha.2.2
  have hxb := hb.2.2
  have hcase : (topD a < topD b ∧ Hid (magC a b = -1)) ∨ (¬ topD a < topD b ∧ topD b < topD a ∧ Hid (magC a b = 1)) ∨
      (topD a = topD b ∧ ∃ j : Nat, j ≤ 2097152 ∧ b.x < a.x ∧ a.x - b.x = (j : Int) ∧ Hid (fits (a.n * 2 ^ j) ∧ magC a b = cmpN (a.n * 2 ^ j) b.n)) ∨
      (topD a = topD b ∧ ∃ j : Nat, j ≤ 2097152 ∧ ¬ b.x < a.x ∧ b.x - a.x = (j : Int) ∧ Hid (fits (b.n * 2 ^ j) ∧ magC a b = cmpN a.n (b.n * 2 ^ j))) := by
    rcases Int.lt_trichotomy (topD a) (topD b) with h | h | h
    · exact Or.inl ⟨h, Lib.hid (magC_lt h)⟩
    · by_cases hx : b.x < a.x
      · obtain ⟨h1, h2, h3⟩ := up_fits ha hb h hx
        refine Or.inr (Or.inr (Or.inl ⟨h, (a.x - b.x).toNat, by omega, hx, by omega, Lib.hid ⟨h1, ?_⟩⟩))
        rw [magC_eq h, h2, h3]
      · refine Or.inr (Or.inr (Or.inr ⟨h, (b.x - a.x).toNat, by omega, hx, by omega, Lib.hid ?_⟩))
        by_cases hx2 : a.x < b.x
        · obtain ⟨h1, h2, h3⟩ := up_fits hb ha h.symm hx2
          exact ⟨h1, by rw [magC_eq h, h2, h3]⟩
        · have e1 : (b.x - a.x).toNat = 0 := by omega
          have e2 : (a.x - b.x).toNat = 0 := by omega
          rw [e1, Nat.pow_zero, Nat.mul_one, magC_eq h, upN_eq, upN_eq, e1, e2, Nat.pow_zero, Nat.mul_one, Nat.mul_one]
          exact ⟨hb.1, rfl⟩
    · exact Or.inr (Or.inl ⟨by omega, h, Lib.hid (magC_gt h)⟩)
  clear ha hb hs
  obtain ⟨g1, n1, x1⟩ := a
  obtain ⟨g2, n2, x2⟩ := b
  simp only [Dy.t] at T0 SA SB KA KB KO KP hcase hxa hxb hfa hfb HSM HSB ⊢
  generalize sgD ⟨g1, n1, x1⟩ = s at *
  generalize topD ⟨g1, n1, x1⟩ = ta at *
  generalize topD ⟨g2, n2, x2⟩ = tb at *
  generalize magC ⟨g1, n1, x1⟩ ⟨g2, n2, x2⟩ = mg at *
  clear hna hnb
  rcases hcase with ⟨h1, hm⟩ | ⟨h0, h1, hm⟩ | ⟨h1, j, hj, hx, hjx, hm⟩ | ⟨h1, j, hj, hx, hjx, hm⟩
  · have h2 : ((ta : Int) != tb) = true := by rw [bne_iff_ne]; omega
    go_enter Tryd.func39, Tryd.ntmps39
    go_wp2_with fail
    have L0 := fun W (h : TB w ⟨g1, natS n1, x1⟩ ⟨g2, natS n2, x2⟩ W) => h.2.1.facts.2.1
    have L1 := fun W (h : TB w ⟨g1, natS n1, x1⟩ ⟨g2, natS n2, x2⟩ W) => h.2.1.facts.2.2.1
    have L2 := fun W (h : TB w ⟨g1, natS n1, x1⟩ ⟨g2, natS n2, x2⟩ W) => h.2.1.facts.2.2.2.1
    have L3 := fun W (h : TB w ⟨g1, natS n1, x1⟩ ⟨g2, natS n2, x2⟩ W) => h.2.2.facts.2.1
    have L4 := fun W (h : TB w ⟨g1, natS n1, x1⟩ ⟨g2, natS n2, x2⟩ W) => h.2.2.facts.2.2.1
    have L5 := fun W (h : TB w ⟨g1, natS n1, x1⟩ ⟨g2, natS n2, x2⟩ W) => h.2.2.facts.2.2.2.1
    go_region_held3 (TB w ⟨g1, natS n1, x1⟩ ⟨g2, natS n2, x2⟩) (first | assumption | exact TB.step (by assumption) (by assumption) | exact TB.drew (by assumption) | exact TB.drawn (by assumption) _)
      (first
        | (go_at_call 21; with_reducible refine (SA.out _).mono ?_; rintro e w' ⟨rfl, hb7⟩)
        | (go_at_call 21; with_reducible refine (SB.out _).mono ?_; rintro e w' ⟨rfl, hb7⟩))
    rename_i hHeld
    clear T0 L0 L1 L2 L3 L4 L5
    have T0 := hHeld
    clear hHeld
    obtain ⟨p0, p1, p2, p3, p4, p5, p6⟩ := T0.2.1.facts
    obtain ⟨q0, q1, q2, q3, q4, q5, q6⟩ := T0.2.2.facts
    go_wp2_with fail
    refine (KA.out _).mono ?_
    rintro e w1 ⟨rfl, hb⟩
    replace T0 := T0.step hb
    clear hb p0 p1 p2 p3 p4 p5 p6 q0 q1 q2 q3 q4 q5 q6
    obtain ⟨p0, p1, p2, p3, p4, p5, p6⟩ := T0.2.1.facts
    obtain ⟨q0, q1, q2, q3, q4, q5, q6⟩ := T0.2.2.facts
    go_wp2_with fail
    refine (KB.out _).mono ?_
    rintro e w2 ⟨rfl, hb⟩
    replace T0 := T0.step hb
    clear hb p0 p1 p2 p3 p4 p5 p6 q0 q1 q2 q3 q4 q5 q6
    obtain ⟨p0, p1, p2, p3, p4, p5, p6⟩ := T0.2.1.facts
    obtain ⟨q0, q1, q2, q3, q4, q5, q6⟩ := T0.2.2.facts
    go_wp2_with fail
    go_ret
    refine ⟨?_, T0.1⟩
    show Ending.returned (.int .i64 (wrap64 (-s))) = _
    rw [HSB.out, hm.out, Int.mul_neg, Int.mul_one]
  · have h2 : ((ta : Int) != tb) = true := by rw [bne_iff_ne]; omega
    go_enter Tryd.func39, Tryd.ntmps39
    go_wp2_with fail
    have L0 := fun W (h : TB w ⟨g1, natS n1, x1⟩ ⟨g2, natS n2, x2⟩ W) => h.2.1.facts.2.1
    have L1 := fun W (h : TB w ⟨g1, natS n1, x1⟩ ⟨g2, natS n2, x2⟩ W) => h.2.1.facts.2.2.1
    have L2 := fun W (h : TB w ⟨g1, natS n1, x1⟩ ⟨g2, natS n2, x2⟩ W) => h.2.1.facts.2.2.2.1
    have L3 := fun W (h : TB w ⟨g1, natS n1, x1⟩ ⟨g2, natS n2, x2⟩ W) => h.2.2.facts.2.1
    have L4 := fun W (h : TB w ⟨g1, natS n1, x1⟩ ⟨g2, natS n2, x2⟩ W) => h.2.2.facts.2.2.1
    have L5 := fun W (h : TB w ⟨g1, natS n1, x1⟩ ⟨g2, natS n2, x2⟩ W) => h.2.2.facts.2.2.2.1
    go_region_held3 (TB w ⟨g1, natS n1, x1⟩ ⟨g2, natS n2, x2⟩) (first | assumption | exact TB.step (by assumption) (by assumption) | exact TB.drew (by assumption) | exact TB.drawn (by assumption) _)
      (first
        | (go_at_call 21; with_reducible refine (SA.out _).mono ?_; rintro e w' ⟨rfl, hb7⟩)
        | (go_at_call 21; with_reducible refine (SB.out _).mono ?_; rintro e w' ⟨rfl, hb7⟩))
    rename_i hHeld
    clear T0 L0 L1 L2 L3 L4 L5
    have T0 := hHeld
    clear hHeld
    obtain ⟨p0, p1, p2, p3, p4, p5, p6⟩ := T0.2.1.facts
    obtain ⟨q0, q1, q2, q3, q4, q5, q6⟩ := T0.2.2.facts
    go_wp2_with fail
    refine (KA.out _).mono ?_
    rintro e w1 ⟨rfl, hb⟩
    replace T0 := T0.step hb
    clear hb p0 p1 p2 p3 p4 p5 p6 q0 q1 q2 q3 q4 q5 q6
    obtain ⟨p0, p1, p2, p3, p4, p5, p6⟩ := T0.2.1.facts
    obtain ⟨q0, q1, q2, q3, q4, q5, q6⟩ := T0.2.2.facts
    go_wp2_with fail
    refine (KB.out _).mono ?_
    rintro e w2 ⟨rfl, hb⟩
    replace T0 := T0.step hb
    clear hb p0 p1 p2 p3 p4 p5 p6 q0 q1 q2 q3 q4 q5 q6
    obtain ⟨p0, p1, p2, p3, p4, p5, p6⟩ := T0.2.1.facts
    obtain ⟨q0, q1, q2, q3, q4, q5, q6⟩ := T0.2.2.facts
    go_wp2_with fail
    go_ret
    exact ⟨by rw [hm.out, Int.mul_one]; rfl, T0.1⟩
  · subst h1
    go_enter Tryd.func39, Tryd.ntmps39
    go_wp2_with fail
    have L0 := fun W (h : TB w ⟨g1, natS n1, x1⟩ ⟨g2, natS n2, x2⟩ W) => h.2.1.facts.2.1
    have L1 := fun W (h : TB w ⟨g1, natS n1, x1⟩ ⟨g2, natS n2, x2⟩ W) => h.2.1.facts.2.2.1
    have L2 := fun W (h : TB w ⟨g1, natS n1, x1⟩ ⟨g2, natS n2, x2⟩ W) => h.2.1.facts.2.2.2.1
    have L3 := fun W (h : TB w ⟨g1, natS n1, x1⟩ ⟨g2, natS n2, x2⟩ W) => h.2.2.facts.2.1
    have L4 := fun W (h : TB w ⟨g1, natS n1, x1⟩ ⟨g2, natS n2, x2⟩ W) => h.2.2.facts.2.2.1
    have L5 := fun W (h : TB w ⟨g1, natS n1, x1⟩ ⟨g2, natS n2, x2⟩ W) => h.2.2.facts.2.2.2.1
    go_region_held3 (TB w ⟨g1, natS n1, x1⟩ ⟨g2, natS n2, x2⟩) (first | assumption | exact TB.step (by assumption) (by assumption) | exact TB.drew (by assumption) | exact TB.drawn (by assumption) _)
      (first
        | (go_at_call 21; with_reducible refine (SA.out _).mono ?_; rintro e w' ⟨rfl, hb7⟩)
        | (go_at_call 21; with_reducible refine (SB.out _).mono ?_; rintro e w' ⟨rfl, hb7⟩))
    rename_i hHeld
    clear T0 L0 L1 L2 L3 L4 L5
    have T0 := hHeld
    clear hHeld
    obtain ⟨p0, p1, p2, p3, p4, p5, p6⟩ := T0.2.1.facts
    obtain ⟨q0, q1, q2, q3, q4, q5, q6⟩ := T0.2.2.facts
    go_wp2_with fail
    refine (KA.out _).mono ?_
    rintro e w1 ⟨rfl, hb⟩
    replace T0 := T0.step hb
    clear hb p0 p1 p2 p3 p4 p5 p6 q0 q1 q2 q3 q4 q5 q6
    obtain ⟨p0, p1, p2, p3, p4, p5, p6⟩ := T0.2.1.facts
    obtain ⟨q0, q1, q2, q3, q4, q5, q6⟩ := T0.2.2.facts
    go_wp2_with fail
    refine (KB.out _).mono ?_
    rintro e w2 ⟨rfl, hb⟩
    replace T0 := T0.step hb
    clear hb p0 p1 p2 p3 p4 p5 p6 q0 q1 q2 q3 q4 q5 q6
    obtain ⟨p0, p1, p2, p3, p4, p5, p6⟩ := T0.2.1.facts
    obtain ⟨q0, q1, q2, q3, q4, q5, q6⟩ := T0.2.2.facts
    go_wp2_with fail
    clear p0 p1 p2 p3 p4 p5 p6 q0 q1 q2 q3 q4 q5 q6
    have L0 := fun W (h : TB w ⟨g1, natS n1, x1⟩ ⟨g2, natS n2, x2⟩ W) => h.2.1.facts.2.1
    have L1 := fun W (h : TB w ⟨g1, natS n1, x1⟩ ⟨g2, natS n2, x2⟩ W) => h.2.1.facts.2.2.1
    have L2 := fun W (h : TB w ⟨g1, natS n1, x1⟩ ⟨g2, natS n2, x2⟩ W) => h.2.1.facts.2.2.2.1
    have L3 := fun W (h : TB w ⟨g1, natS n1, x1⟩ ⟨g2, natS n2, x2⟩ W) => h.2.2.facts.2.1
    have L4 := fun W (h : TB w ⟨g1, natS n1, x1⟩ ⟨g2, natS n2, x2⟩ W) => h.2.2.facts.2.2.1
    have L5 := fun W (h : TB w ⟨g1, natS n1, x1⟩ ⟨g2, natS n2, x2⟩ W) => h.2.2.facts.2.2.2.1
    go_region_held3 (TB w ⟨g1, natS n1, x1⟩ ⟨g2, natS n2, x2⟩) (first | assumption | exact TB.step (by assumption) (by assumption) | exact TB.drew (by assumption) | exact TB.drawn (by assumption) _)
      (first
        | (go_at_call 61; (with_reducible refine (KO.out _).mono ?_); rintro e wa ⟨v1, rfl, hown1, hb7⟩)
        | (go_at_call 61; (with_reducible refine (KP.out _).mono ?_); rintro e wb ⟨v2, rfl, hown2, hb8⟩))
    rename_i hHeld
    clear T0 L0 L1 L2 L3 L4 L5
    have T0 := hHeld
    clear hHeld
    have hown1 := hown1.whole hb8
    clear hb7 hb8
    obtain ⟨A1, c1, rfl, hc1⟩ := hown1.len
    obtain ⟨A2, c2, rfl, hc2⟩ := hown2.len
    rw [dl_length] at hown1 hown2 ⊢
    rw [dl_length]
    have KS := Lib.hid (rShifted3_c n1 j _ A1 c1 wb (by omega) (by omega) hown1)
    have HO := Lib.hid hown2
    clear hown1 hown2 hc1 hc2
    obtain ⟨p0, p1, p2, p3, p4, p5, p6⟩ := T0.2.1.facts
    obtain ⟨q0, q1, q2, q3, q4, q5, q6⟩ := T0.2.2.facts
    go_wp2_with fail
    refine KS.out.mono ?_
    rintro e w5 ⟨A3, c3, rfl, hown3, hb⟩
    replace T0 := T0.step hb
    have HO2 := Lib.hid (HO.out.whole hb)
    clear hb
    have hfz : nd 256 (n1 * 2 ^ j) ≤ 16384 := hm.out.1
    have KC := Lib.hid (rCmp3_c (n1 * 2 ^ j) n2 _ _ A3 A2 c3 c2 w5 (by omega) (by omega) hown3 HO2.out)
    rw [← hm.out.2] at KC
    clear hfz hown3
    generalize n1 * 2 ^ j = z at *
    go_wp2_with fail
    refine KC.out.mono ?_
    rintro e w6 ⟨rfl, nn, rfl⟩
    go_wp2_with fail
    go_ret
    refine ⟨?_, (T0.drawn nn).1⟩
    show Ending.returned (.int .i64 (wrap64 (s * mg))) = _
    rw [HSM.out]
  · subst h1
    go_enter Tryd.func39, Tryd.ntmps39
    go_wp2_with fail
    have L0 := fun W (h : TB w ⟨g1, natS n1, x1⟩ ⟨g2, natS n2, x2⟩ W) => h.2.1.facts.2.1
    have L1 := fun W (h : TB w ⟨g1, natS n1, x1⟩ ⟨g2, natS n2, x2⟩ W) => h.2.1.facts.2.2.1
    have L2 := fun W (h : TB w ⟨g1, natS n1, x1⟩ ⟨g2, natS n2, x2⟩ W) => h.2.1.facts.2.2.2.1
    have L3 := fun W (h : TB w ⟨g1, natS n1, x1⟩ ⟨g2, natS n2, x2⟩ W) => h.2.2.facts.2.1
    have L4 := fun W (h : TB w ⟨g1, natS n1, x1⟩ ⟨g2, natS n2, x2⟩ W) => h.2.2.facts.2.2.1
    have L5 := fun W (h : TB w ⟨g1, natS n1, x1⟩ ⟨g2, natS n2, x2⟩ W) => h.2.2.facts.2.2.2.1
    go_region_held3 (TB w ⟨g1, natS n1, x1⟩ ⟨g2, natS n2, x2⟩) (first | assumption | exact TB.step (by assumption) (by assumption) | exact TB.drew (by assumption) | exact TB.drawn (by assumption) _)
      (first
        | (go_at_call 21; with_reducible refine (SA.out _).mono ?_; rintro e w' ⟨rfl, hb7⟩)
        | (go_at_call 21; with_reducible refine (SB.out _).mono ?_; rintro e w' ⟨rfl, hb7⟩))
    rename_i hHeld
    clear T0 L0 L1 L2 L3 L4 L5
    have T0 := hHeld
    clear hHeld
    obtain ⟨p0, p1, p2, p3, p4, p5, p6⟩ := T0.2.1.facts
    obtain ⟨q0, q1, q2, q3, q4, q5, q6⟩ := T0.2.2.facts
    go_wp2_with fail
    refine (KA.out _).mono ?_
    rintro e w1 ⟨rfl, hb⟩
    replace T0 := T0.step hb
    clear hb p0 p1 p2 p3 p4 p5 p6 q0 q1 q2 q3 q4 q5 q6
    obtain ⟨p0, p1, p2, p3, p4, p5, p6⟩ := T0.2.1.facts
    obtain ⟨q0, q1, q2, q3, q4, q5, q6⟩ := T0.2.2.facts
    go_wp2_with fail
    refine (KB.out _).mono ?_
    rintro e w2 ⟨rfl, hb⟩
    replace T0 := T0.step hb
    clear hb p0 p1 p2 p3 p4 p5 p6 q0 q1 q2 q3 q4 q5 q6
    obtain ⟨p0, p1, p2, p3, p4, p5, p6⟩ := T0.2.1.facts
    obtain ⟨q0, q1, q2, q3, q4, q5, q6⟩ := T0.2.2.facts
    go_wp2_with fail
    clear p0 p1 p2 p3 p4 p5 p6 q0 q1 q2 q3 q4 q5 q6
    have L0 := fun W (h : TB w ⟨g1, natS n1, x1⟩ ⟨g2, natS n2, x2⟩ W) => h.2.1.facts.2.1
    have L1 := fun W (h : TB w ⟨g1, natS n1, x1⟩ ⟨g2, natS n2, x2⟩ W) => h.2.1.facts.2.2.1
    have L2 := fun W (h : TB w ⟨g1, natS n1, x1⟩ ⟨g2, natS n2, x2⟩ W) => h.2.1.facts.2.2.2.1
    have L3 := fun W (h : TB w ⟨g1, natS n1, x1⟩ ⟨g2, natS n2, x2⟩ W) => h.2.2.facts.2.1
    have L4 := fun W (h : TB w ⟨g1, natS n1, x1⟩ ⟨g2, natS n2, x2⟩ W) => h.2.2.facts.2.2.1
    have L5 := fun W (h : TB w ⟨g1, natS n1, x1⟩ ⟨g2, natS n2, x2⟩ W) => h.2.2.facts.2.2.2.1
    go_region_held3 (TB w ⟨g1, natS n1, x1⟩ ⟨g2, natS n2, x2⟩) (first | assumption | exact TB.step (by assumption) (by assumption) | exact TB.drew (by assumption) | exact TB.drawn (by assumption) _)
      (first
        | (go_at_call 61; (with_reducible refine (KO.out _).mono ?_); rintro e wa ⟨v1, rfl, hown1, hb7⟩)
        | (go_at_call 61; (with_reducible refine (KP.out _).mono ?_); rintro e wb ⟨v2, rfl, hown2, hb8⟩))
    rename_i hHeld
    clear T0 L0 L1 L2 L3 L4 L5
    have T0 := hHeld
    clear hHeld
    have hown1 := hown1.whole hb8
    clear hb7 hb8
    obtain ⟨A1, c1, rfl, hc1⟩ := hown1.len
    obtain ⟨A2, c2, rfl, hc2⟩ := hown2.len
    rw [dl_length] at hown1 hown2 ⊢
    rw [dl_length]
    have KS := Lib.hid (rShifted3_c n2 j _ A2 c2 wb (by omega) (by omega) hown2)
    have HO := Lib.hid hown1
    clear hown1 hown2 hc1 hc2
    obtain ⟨p0, p1, p2, p3, p4, p5, p6⟩ := T0.2.1.facts
    obtain ⟨q0, q1, q2, q3, q4, q5, q6⟩ := T0.2.2.facts
    go_wp2_with fail
    refine KS.out.mono ?_
    rintro e w5 ⟨A3, c3, rfl, hown3, hb⟩
    replace T0 := T0.step hb
    have HO2 := Lib.hid (HO.out.whole hb)
    clear hb
    have hfz : nd 256 (n2 * 2 ^ j) ≤ 16384 := hm.out.1
    have KC := Lib.hid (rCmp3_c n1 (n2 * 2 ^ j) _ _ A1 A3 c1 c3 w5 (by omega) (by omega) HO2.out hown3)
    rw [← hm.out.2] at KC
    clear hfz hown3
    generalize n2 * 2 ^ j = z at *
    go_wp2_with fail
    refine KC.out.mono ?_
    rintro e w6 ⟨rfl, nn, rfl⟩
    go_wp2_with fail
    go_ret
    refine ⟨?_, (T0.drawn nn).1⟩
    show Ending.returned (.int .i64 (wrap64 (s * mg))) = _
    rw [HSM.out]
theorem rCmpD3_c (a b : Dy) (w : World) (ha : a.Ok) (hb : b.Ok) :
    Calls Tryd.prog 39 #[.agg #[.bool a.g, .string (natS a.n), .int .i64 a.x], .agg #[.bool b.g, .string (natS b.n), .int .i64 b.x]] w fun e w' => e = .returned (.int .i64 (cmpD a b)) ∧ Below w.heap.size w w' := by
  rcases Int.lt_trichotomy (sgD a) (sgD b) with h | h | h
  · rw [cmpD_lt h]; exact rCmpD3_sgn a b w ha hb _ (Or.inl ⟨h, rfl⟩)
  · by_cases h0 : sgD a = 0
    · rw [cmpD_zero h h0]; exact rCmpD3_sgn a b w ha hb _ (Or.inr (Or.inr ⟨h0, h ▸ h0, rfl⟩))
    · rw [cmpD_eq h h0]; exact rCmpD3_num a b w (Dy.num_of ha h0) (Dy.num_of hb (h ▸ h0)) h
  · rw [cmpD_gt h]; exact rCmpD3_sgn a b w ha hb _ (Or.inr (Or.inl ⟨by omega, h, rfl⟩))
end Go.Proofs.YtjkonfopajihdaaDoor
