/- Texts put together: P32 P34 P35 P36 P37 P38 N40 P39 P40 B7t B8t B9t B10t P43 P44 P42 Shelf2 P47 N29 N30 N79 N80 N81 P48. -/
import Derived.Test.YtajcapliokblfaaGreatDoorT5
import Derived.Test.YtajcapliokblfaaGreatDoorT4
import Derived.Shelf.Small.Bits
import Derived.Shelf.Small.Wraps
import Derived.Shelf.Strconv.Itoa0
import Derived.Shelf.Strings.Search1
import Derived.Shelf.Strings.Search2
import Derived.Shelf.Strings.Cut
import Derived.Shelf.LaysM
import Derived.Shelf.Strings.Shaped
import Derived.Shelf.Strings.Prefix
import Derived.Shelf.Bits.Mul64
import Derived.Test.YtajcapliokblfaaGreatDoorProg
import Derived.Test.YtajcapliokblfaaGreatDoorT2
set_option linter.unusedSimpArgs false
set_option linter.unusedVariables false
namespace Go.Proofs.YtajcapliokblfaaGreatDoor
open Go Go.RowKit Nt
@[irreducible] def rsW (L D : Nat) : Int := if L = 0 then 0 else 2 + cmpN (L * 2) D
theorem rsW_0 (D : Nat) : rsW 0 D = 0 := by unfold rsW; exact if_pos rfl
theorem rsW_n {L D : Nat} (h : L ≠ 0) : rsW L D = 2 + cmpN (L * 2) D := by unfold rsW; exact if_neg h
set_option maxRecDepth 100000 in
set_option maxHeartbeats 400000 in
theorem Prest_c (L D : Nat) (A A' : Option Addr) (c c' : Nat) (w : World) (h1 : nd W L ≤ 20000) (h2 : nd W D ≤ 20000) (r1 : Row w w.heap.size A L (nd W L)) (r2 : Row w w.heap.size A' D (nd W D)) :
    Calls Tryz.prog 143 #[.slice A (nd W L) c, .slice A' (nd W D) c'] w fun e w' => e = .returned (.int .u8 (rsW L D)) ∧ Below w.heap.size w w' := by
  by_cases h0 : L = 0
  · subst h0
    rw [rsW_0, nd_zero]
    clear h1 h2 r1 r2
    go_enter Tryz.func143, Tryz.ntmps143
    go_wp2_with fail
    go_ret
    exact ⟨rfl, Below.refl _ _⟩
  · have HR := Lib.hid (rsW_n (D := D) h0)
    have e1 : (((nd W L : Nat) : Int) == 0) = false := beq_eq_false_iff_ne.2 (fun c => h0 ((nd_eq_zero W2).1 (by omega)))
    have e2 : ¬ ((nd W L : Nat) : Int) = 0 := fun c => h0 ((nd_eq_zero W2).1 (by omega))
    have e3 : ¬ nd W L = 0 := fun c => h0 ((nd_eq_zero W2).1 c)
    have KS := Lib.hid (Shl_c A c L 1 w.heap.size w (by omega) r1 (Nat.le_refl _))
    have hb1 : nd W (L * 2 ^ 1) ≤ 30000 := Nat.le_trans (mul_words L (2 ^ 1)) (by rw [show (2 : Nat) ^ 1 = 2 from rfl, nd_unique (b := W) (n := 2) (k := 0) W2 (by decide) (by rw [W_eq]; decide)]; omega)
    have R2 := Lib.hid r2
    have HB1 := Lib.hid hb1
    have HB2 := Lib.hid h2
    have hm : L * 2 ^ 1 = L * 2 := by rw [Nat.pow_one]
    rw [hm] at KS HB1
    clear hm hb1 h1 h2 r1 r2 h0
    go_enter Tryz.func143, Tryz.ntmps143
    go_wp2_with fail
    refine KS.out.mono ?_
    intro ee w1 hp
    obtain ⟨A1, c1, rfl, hc1, hr1, hb⟩ := hp.get
    have KC := Lib.hid (Cmp_c A1 A' c1 c' (L * 2) D w1.heap.size w1 (by have := HB1.out; omega) (by have := HB2.out; omega) hr1 ((R2.out.below hb).more hb.size))
    have HBB := Lib.hid hb
    clear hp hc1 hr1 hb KS
    go_wp2_with fail
    refine KC.out.mono ?_
    rintro ee w2 ⟨rfl, nn, rfl⟩
    obtain ⟨u1, u2⟩ := cmp_b (L * 2) D
    have hw : IntKind.u8.wrap (2 + cmpN (L * 2) D) = 2 + cmpN (L * 2) D := by
      rcases (show cmpN (L * 2) D = -1 ∨ cmpN (L * 2) D = 0 ∨ cmpN (L * 2) D = 1 by omega) with c | c | c <;> rw [c] <;> decide
    have hw2 : IntKind.i64.wrap (2 + cmpN (L * 2) D) = 2 + cmpN (L * 2) D := IntWalk.i64_in _ ⟨by omega, by omega⟩
    clear u1 u2 KC
    generalize cmpN (L * 2) D = cc at *
    go_wp2_with fail
    go_ret
    exact ⟨by rw [HR.out]; rfl, below_drewN HBB.out nn⟩
theorem nd_shl {n k : Nat} (h : nd W n ≤ 2100) (hk : k ≤ 131072) : nd W (n * 2 ^ k) ≤ 10000 := by
  refine Nat.le_trans (mul_words n (2 ^ k)) ?_
  have key : ∀ q, 131072 < 64 * q → nd W (2 ^ k) ≤ q := fun q hq => nd_le W2 (by
    rw [show W ^ q = 2 ^ (64 * q) by rw [show W = 2 ^ 64 by rw [W_eq], ← Nat.pow_mul]]
    exact (Nat.pow_lt_pow_iff_right (by omega)).2 (by omega))
  have := key 2049 (by omega)
  omega
@[irreducible] def tpZ (n d : Nat) : Int := if n * 2 ^ (max (-((nd 2 n : Int) - nd 2 d)) 0).toNat < d * 2 ^ (max ((nd 2 n : Int) - nd 2 d) 0).toNat then (nd 2 n : Int) - nd 2 d - 1 else (nd 2 n : Int) - nd 2 d
set_option maxRecDepth 100000 in
set_option maxHeartbeats 400000 in
theorem Ftop_c (g : Bool) (n d : Nat) (A A' : Option Addr) (c c' : Nat) (w : World) (hn : fits n) (hd : fits d) (r1 : Row w w.heap.size A n (nd W n)) (r2 : Row w w.heap.size A' d (nd W d)) :
    Calls Tryz.prog 138 #[.agg #[.bool g, .slice A (nd W n) c, .slice A' (nd W d) c']] w fun e w' => e = .returned (.int .i64 (tpZ n d)) ∧ Below w.heap.size w w' := by
  obtain ⟨bl, hbl⟩ : ∃ bl : List C3, bl = [(.bool g, .slice A (nd W n) c, .slice A' (nd W d) c')] := ⟨_, rfl⟩
  have T0 := BL.start1 w (.bool g) (.slice A (nd W n) c) (.slice A' (nd W d) c') 77
  rw [← hbl] at T0
  have L0 : ∀ U, BL w bl U → U.cell? ⟨w.heap.size, 0, none⟩ = some (.bool g) := fun U hU => (hU.box 0 (.bool g, .slice A (nd W n) c, .slice A' (nd W d) c') (by rw [hbl]; rfl)).2.1
  have L1 : ∀ U, BL w bl U → U.cell? ⟨w.heap.size, 1, none⟩ = some (.slice A (nd W n) c) := fun U hU => (hU.box 0 (.bool g, .slice A (nd W n) c, .slice A' (nd W d) c') (by rw [hbl]; rfl)).2.2.1
  have L2 : ∀ U, BL w bl U → U.cell? ⟨w.heap.size, 2, none⟩ = some (.slice A' (nd W d) c') := fun U hU => (hU.box 0 (.bool g, .slice A (nd W n) c, .slice A' (nd W d) c') (by rw [hbl]; rfl)).2.2.2.1
  have HBL := Lib.hid hbl
  clear hbl
  have b1 := bits_131072' hn
  have b2 := bits_131072' hd
  have z1 := fits_words hn
  have z2 := fits_words hd
  have KL1 : Hid (∀ W', BL w bl W' → Calls Tryz.prog 113 #[.slice A (nd W n) c] W' (fun e w' => e = .returned (.int .i64 (nd 2 n : Nat)) ∧ W' = w')) := Lib.hid fun W' hT => Len_c A c n W'.heap.size W' (by omega) ((r1.below hT.1).more hT.1.size)
  have KL2 : Hid (∀ W', BL w bl W' → Calls Tryz.prog 113 #[.slice A' (nd W d) c'] W' (fun e w' => e = .returned (.int .i64 (nd 2 d : Nat)) ∧ W' = w')) := Lib.hid fun W' hT => Len_c A' c' d W'.heap.size W' (by omega) ((r2.below hT.1).more hT.1.size)
  obtain ⟨tt, ht⟩ : ∃ tt : Int, tt = (nd 2 n : Int) - nd 2 d := ⟨_, rfl⟩
  obtain ⟨k1, hk1⟩ : ∃ k : Nat, (k : Int) = max (-tt) 0 := ⟨(max (-tt) 0).toNat, by omega⟩
  obtain ⟨k2, hk2⟩ : ∃ k : Nat, (k : Int) = max tt 0 := ⟨(max tt 0).toNat, by omega⟩
  have HT : Hid (tpZ n d = if n * 2 ^ k1 < d * 2 ^ k2 then tt - 1 else tt) := Lib.hid (by
    unfold tpZ
    rw [← ht, ← hk1, ← hk2]
    rfl)
  have hk1b : k1 ≤ 131072 := by omega
  have hk2b : k2 ≤ 131072 := by omega
  have KS1 : Hid (∀ W', BL w bl W' → Calls Tryz.prog 118 #[.slice A (nd W n) c, .int .i64 (k1 : Nat)] W' (NumPost (n * 2 ^ k1) W')) := Lib.hid fun W' hT => Shl_c A c n k1 W'.heap.size W' (by omega) ((r1.below hT.1).more hT.1.size) (Nat.le_refl _)
  have KS2 : Hid (∀ W', BL w bl W' → Calls Tryz.prog 118 #[.slice A' (nd W d) c', .int .i64 (k2 : Nat)] W' (NumPost (d * 2 ^ k2) W')) := Lib.hid fun W' hT => Shl_c A' c' d k2 W'.heap.size W' (by omega) ((r2.below hT.1).more hT.1.size) (Nat.le_refl _)
  have hX : nd W (n * 2 ^ k1) ≤ 10000 := nd_shl (by omega) hk1b
  have hY : nd W (d * 2 ^ k2) ≤ 10000 := nd_shl (by omega) hk2b
  have hw : IntKind.i64.wrap ((nd 2 n : Int) - nd 2 d) = tt := by rw [← ht]; exact IntWalk.i64_in _ ⟨by omega, by omega⟩
  have hw2 : IntKind.i64.wrap (-tt) = -tt := IntWalk.i64_in _ ⟨by omega, by omega⟩
  have hw3 : IntKind.i64.wrap (tt - 1) = tt - 1 := IntWalk.i64_in _ ⟨by omega, by omega⟩
  have hm1 : max (-tt) 0 = (k1 : Int) := hk1.symm
  have hm2 : max 0 (-tt) = (k1 : Int) := by omega
  have hm3 : max tt 0 = (k2 : Int) := hk2.symm
  have hm4 : max 0 tt = (k2 : Int) := by omega
  clear hk1 hk2 ht hn hd b1 b2 z1 z2 r1 r2 hk1b hk2b
  generalize n * 2 ^ k1 = X at *
  generalize d * 2 ^ k2 = Y at *
  have HX := Lib.hid hX
  have HY := Lib.hid hY
  clear hX hY
  generalize tpZ n d = R at *
  generalize nd 2 n = ln at *
  generalize nd 2 d = ld at *
  go_enter Tryz.func138, Tryz.ntmps138
  go_wp2_with fail
  go_region_held3 (BL w bl) (first | assumption | exact BL.step (by assumption) (by assumption) | exact BL.drew (by assumption) | exact BL.drawn (by assumption) _)
    (first
      | (go_at_call 113; (with_reducible refine (KL1.out _ (by assumption)).mono ?_); rintro ee wa ⟨rfl, rfl⟩)
      | (go_at_call 113; (with_reducible refine (KL2.out _ (by assumption)).mono ?_); rintro ee wa ⟨rfl, rfl⟩))
  rename_i hHeld
  replace T0 := hHeld
  clear hHeld KL1 KL2
  obtain ⟨p0, p1, p2, p3, p4, p5, p6⟩ := T0.boxZ (.bool g, .slice A (nd W n) c, .slice A' (nd W d) c') (by rw [HBL.out]; rfl)
  go_wp2_with fail
  clear p0 p1 p2 p3 p4 p5 p6
  go_region_held3 (BL w bl) (first | assumption | exact BL.step (by assumption) (by assumption) | exact BL.drew (by assumption) | exact BL.drawn (by assumption) _)
    (first
      | (go_at_call 118; (with_reducible refine (KS1.out _ (by assumption)).mono ?_); rintro ee wa hp; obtain ⟨A1, c1, rfl, hc1, hr1, hb1⟩ := hp.get; clear hp)
      | (go_at_call 118; (with_reducible refine (KS2.out _ (by assumption)).mono ?_); rintro ee wb hp; obtain ⟨A2, c2, rfl, hc2, hr2, hb2⟩ := hp.get; clear hp; have hr1' := (hr1.below hb2).more hb2.size; clear hr1)
      | (go_at_call 131; (refine (Cmp_c _ _ _ _ X Y _ _ (Nat.le_trans HX.out (by decide)) (Nat.le_trans HY.out (by decide)) hr1' hr2).mono ?_); rintro ee wc ⟨rfl, nn, rfl⟩; clear hr1' hr2))
  all_goals
    rename_i hHeld
    have HF := Lib.hid hHeld.1
    clear hHeld T0 L0 L1 L2 KS1 KS2
    by_cases hl : X < Y
    · have hc := cmp_neg hl
      have hc2 : cmpN X Y < 0 := of_decide_eq_true hc
      have hc3 : ¬ 0 ≤ cmpN X Y := by omega
      have HR := Lib.hid (show R = tt - 1 by rw [HT.out, if_pos hl])
      clear hl
      generalize cmpN X Y = cc at *
      go_wp2_with fail
      go_ret
      exact ⟨by rw [HR.out]; rfl, HF.out⟩
    · have hc := cmp_pos (Nat.le_of_not_lt hl)
      have hc2 : ¬ cmpN X Y < 0 := of_decide_eq_false hc
      have hc3 : 0 ≤ cmpN X Y := by omega
      have HR := Lib.hid (show R = tt by rw [HT.out, if_neg hl])
      clear hl
      generalize cmpN X Y = cc at *
      go_wp2_with fail
      go_ret
      exact ⟨by rw [HR.out]; rfl, HF.out⟩
end Go.Proofs.YtajcapliokblfaaGreatDoor
namespace Go.Proofs.YtajcapliokblfaaGreatDoor
open Go Go.RowKit Nt
def rk1 (q : Int) : Nat := (max (-q) 0).toNat
def rk2 (q : Int) : Nat := (max q 0).toNat
def rX (n : Nat) (q : Int) : Nat := n * 2 ^ rk1 q
def rY (d : Nat) (q : Int) : Nat := d * 2 ^ rk2 q
theorem rY_pos {d : Nat} (h : d ≠ 0) (q : Int) : rY d q ≠ 0 := Nat.mul_ne_zero h (Nat.pos_iff_ne_zero.1 (Nat.two_pow_pos _))
theorem sc_iff {n d a b a' b' : Nat} (h : a + b' = a' + b) : d * 2 ^ a ≤ n * 2 ^ b ↔ d * 2 ^ a' ≤ n * 2 ^ b' := by
  have e1 : d * 2 ^ a * 2 ^ b' = d * 2 ^ a' * 2 ^ b := by rw [Nat.mul_assoc, Nat.mul_assoc, ← Nat.pow_add, ← Nat.pow_add, h]
  have e2 : n * 2 ^ b * 2 ^ b' = n * 2 ^ b' * 2 ^ b := Nat.mul_right_comm _ _ _
  have p1 := Nat.two_pow_pos b'
  have p2 := Nat.two_pow_pos b
  constructor
  · intro k
    have := Nat.mul_le_mul_right (2 ^ b') k
    rw [e1, e2] at this
    exact Nat.le_of_mul_le_mul_right this p2
  · intro k
    have := Nat.mul_le_mul_right (2 ^ b) k
    rw [← e1, ← e2] at this
    exact Nat.le_of_mul_le_mul_right this p1
def Gz (n d : Nat) (z : Int) : Prop := rY d z ≤ rX n z
theorem Gz_at {n d a b : Nat} {z : Int} (h : (a : Int) - b = z) : Gz n d z ↔ d * 2 ^ a ≤ n * 2 ^ b := by
  unfold Gz rY rX
  exact sc_iff (by unfold rk1 rk2; omega)
theorem Gz_shift (n d : Nat) (q : Int) (k : Nat) : rY d q * 2 ^ k ≤ rX n q ↔ Gz n d (q + k) := by
  have e : rY d q * 2 ^ k = d * 2 ^ (rk2 q + k) := by unfold rY; rw [Nat.mul_assoc, ← Nat.pow_add]
  rw [e]
  exact (Gz_at (by unfold rk1 rk2; omega)).symm
theorem Gz_mono {n d : Nat} {z z' : Int} (h : Gz n d z) (hz : z' ≤ z) : Gz n d z' := by
  obtain ⟨k, hk⟩ : ∃ k : Nat, z = z' + k := ⟨(z - z').toNat, by omega⟩
  rw [hk] at h
  have h1 := (Gz_shift n d z' k).2 h
  exact Nat.le_trans (Nat.le_mul_of_pos_right _ (Nat.two_pow_pos k)) h1
theorem tp_spec {n d : Nat} (hn : n ≠ 0) (hd : d ≠ 0) : Gz n d (tpZ n d) ∧ ¬ Gz n d (tpZ n d + 1) ∧ (nd 2 n : Int) - nd 2 d - 1 ≤ tpZ n d ∧ tpZ n d ≤ (nd 2 n : Int) - nd 2 d := by
  have n1 := lt_nd (b := 2) (n := n) (by omega)
  have d1 := lt_nd (b := 2) (n := d) (by omega)
  have nn : nd 2 n ≠ 0 := fun c => hn ((nd_eq_zero (by omega)).1 c)
  have dd : nd 2 d ≠ 0 := fun c => hd ((nd_eq_zero (by omega)).1 c)
  have n2 : 2 ^ (nd 2 n - 1) ≤ n := (pow_le_iff (by omega) _ _).2 (by omega)
  have d2 : 2 ^ (nd 2 d - 1) ≤ d := (pow_le_iff (by omega) _ _).2 (by omega)
  have g1 : Gz n d ((nd 2 n : Int) - nd 2 d - 1) := (Gz_at (a := nd 2 n - 1) (b := nd 2 d) (by omega)).2 (by
    rw [Nat.mul_comm]; exact Nat.mul_le_mul n2 (Nat.le_of_lt d1))
  have g2 : ¬ Gz n d ((nd 2 n : Int) - nd 2 d + 1) := fun c => by
    have c2 := (Gz_at (a := nd 2 n) (b := nd 2 d - 1) (by omega)).1 c
    have h3 : n * 2 ^ (nd 2 d - 1) < 2 ^ nd 2 n * d := Nat.lt_of_lt_of_le (Nat.mul_lt_mul_of_pos_right n1 (Nat.two_pow_pos _)) (Nat.mul_le_mul_left _ d2)
    rw [Nat.mul_comm d] at c2
    omega
  have key : n * 2 ^ (max (-((nd 2 n : Int) - nd 2 d)) 0).toNat < d * 2 ^ (max ((nd 2 n : Int) - nd 2 d) 0).toNat ↔ ¬ Gz n d ((nd 2 n : Int) - nd 2 d) := by
    unfold Gz rX rY rk1 rk2; omega
  unfold tpZ
  by_cases c : n * 2 ^ (max (-((nd 2 n : Int) - nd 2 d)) 0).toNat < d * 2 ^ (max ((nd 2 n : Int) - nd 2 d) 0).toNat
  · rw [if_pos c]
    refine ⟨g1, ?_, Int.le_refl _, by omega⟩
    rw [show (nd 2 n : Int) - nd 2 d - 1 + 1 = (nd 2 n : Int) - nd 2 d by omega]
    exact key.1 c
  · rw [if_neg c]
    exact ⟨Classical.not_not.1 (fun k => c (key.2 k)), g2, by omega, by omega⟩
def rqZ (n d : Nat) : Int := max (tpZ n d - 52) (-1074)
def rMq (n d : Nat) (q : Int) : Nat := rX n q / rY d q
def rLq (n d : Nat) (q : Int) : Nat := rX n q % rY d q
theorem pow_rMq {n d : Nat} (hd : d ≠ 0) (q : Int) (k : Nat) : 2 ^ k ≤ rMq n d q ↔ Gz n d (q + k) := by
  rw [← Gz_shift]
  unfold rMq
  rw [Nat.le_div_iff_mul_le (Nat.pos_of_ne_zero (rY_pos hd q)), Nat.mul_comm]
theorem rMq_lt {n d : Nat} (hn : n ≠ 0) (hd : d ≠ 0) : rMq n d (rqZ n d) < 9007199254740992 := by
  obtain ⟨h1, h2, h3, h4⟩ := tp_spec hn hd
  have h := pow_rMq (n := n) hd (rqZ n d) 53
  have : ¬ Gz n d (rqZ n d + (53 : Nat)) := fun c => h2 (Gz_mono c (by unfold rqZ; omega))
  have h5 : ¬ 2 ^ 53 ≤ rMq n d (rqZ n d) := fun c => this (h.1 c)
  have e : (2 : Nat) ^ 53 = 9007199254740992 := by decide
  rw [e] at h5
  omega
theorem rMq_norm {n d : Nat} (hn : n ≠ 0) (hd : d ≠ 0) : 4503599627370496 ≤ rMq n d (rqZ n d) ∨ rqZ n d = -1074 := by
  obtain ⟨h1, h2, h3, h4⟩ := tp_spec hn hd
  by_cases c : tpZ n d - 52 ≤ -1074
  · exact Or.inr (by unfold rqZ; omega)
  · refine Or.inl ?_
    have h := (pow_rMq (n := n) hd (rqZ n d) 52).2 (Gz_mono h1 (by unfold rqZ; omega))
    have e : (2 : Nat) ^ 52 = 4503599627370496 := by decide
    rw [e] at h; exact h
theorem rMq_big {n d : Nat} (hn : n ≠ 0) (hd : d ≠ 0) {q : Int} (h1074 : -1074 ≤ q) (hq : q < rqZ n d) : 9007199254740992 ≤ rMq n d q := by
  obtain ⟨h1, h2, h3, h4⟩ := tp_spec hn hd
  have h := (pow_rMq (n := n) hd q 53).2 (Gz_mono h1 (by unfold rqZ at hq; omega))
  have e : (2 : Nat) ^ 53 = 9007199254740992 := by decide
  rw [e] at h; exact h
theorem rqZ_b (n d : Nat) (h : tpZ n d ≤ 1023) : -1074 ≤ rqZ n d ∧ rqZ n d ≤ 971 := by unfold rqZ; omega
theorem rX_step (n d : Nat) {q : Int} (h : q ≤ 0) : rX n (q - 1) = rX n q * 2 ∧ rY d (q - 1) = rY d q := by
  have h1 : rk1 (q - 1) = rk1 q + 1 := by unfold rk1; omega
  have h2 : rk2 (q - 1) = rk2 q := by unfold rk2; omega
  unfold rX rY
  rw [h1, h2, Nat.pow_succ, Nat.mul_assoc]
  exact ⟨rfl, rfl⟩
theorem rMq_tiny {n d : Nat} (hn : n ≠ 0) (hd : d ≠ 0) (h : tpZ n d < -1075) : rqZ n d = -1074 ∧ rMq n d (-1074) = 0 ∧ rsW (rLq n d (-1074)) (rY d (-1074)) = 1 := by
  obtain ⟨h1, h2, h3, h4⟩ := tp_spec hn hd
  have a1 : ¬ Gz n d (-1074) := fun c => h2 (Gz_mono c (by omega))
  have a2 : ¬ Gz n d (-1075) := fun c => h2 (Gz_mono c (by omega))
  have hX : rX n (-1074) < rY d (-1074) := by unfold Gz at a1; omega
  have hX0 : rX n (-1074) ≠ 0 := Nat.mul_ne_zero hn (Nat.pos_iff_ne_zero.1 (Nat.two_pow_pos _))
  have hM : rMq n d (-1074) = 0 := Nat.div_eq_of_lt hX
  have hL : rLq n d (-1074) = rX n (-1074) := Nat.mod_eq_of_lt hX
  have h2X : rX n (-1074) * 2 < rY d (-1074) := by
    obtain ⟨e1, e2⟩ := rX_step n d (q := -1074) (by decide)
    have e3 : ((-1074 : Int) - 1) = -1075 := by decide
    rw [e3] at e1 e2
    unfold Gz at a2
    rw [e1, e2] at a2
    omega
  refine ⟨by unfold rqZ; omega, hM, ?_⟩
  rw [rsW_n (by rw [hL]; exact hX0), hL, cmpN_lt h2X]
  rfl
end Go.Proofs.YtajcapliokblfaaGreatDoor
namespace Go.Proofs.YtajcapliokblfaaGreatDoor
open Go Go.RowKit Nt
def upW (k : Nat) (g : Bool) (m : Nat) (r : Int) : Bool := if k = 0 then decide (r = 3 ∨ (r = 2 ∧ m % 2 = 1)) else if k = 1 then g && decide (r ≠ 0) else !g && decide (r ≠ 0)
def mUp (k : Nat) (g : Bool) (m : Nat) (r : Int) : Nat := if upW k g m r = true then m + 1 else m
theorem r_cases {r : Int} (h : 0 ≤ r ∧ r ≤ 3) : r = 0 ∨ r = 1 ∨ r = 2 ∨ r = 3 := by omega
theorem RF_Near_c (g : Bool) (m : Nat) (q r : Int) (w : World) (hG : Globs glT w) (hr : 0 ≤ r ∧ r ≤ 3) (hm : m < 9007199254740992) (hq1 : -1074 ≤ q) (hq2 : q ≤ 971) (hmn : 4503599627370496 ≤ m ∨ q = -1074) : Calls Tryz.prog 140 #[.bool g, .int .u64 ((m : Nat) : Int), .int .i64 q, .int .u8 r, .func (.func 90) #[] #[]] w fun e w' => e = .returned (.float .f64 (Bt.wf g (pk (mUp 0 g m r) q))) ∧ Below w.heap.size w w' := by
  unfold mUp upW
  rcases r_cases hr with rfl | rfl | rfl | rfl <;> cases g
  · simpa using RF_Near_f0 m q w hG hm hq1 hq2 hmn
  · simpa using RF_Near_t0 m q w hG hm hq1 hq2 hmn
  · simpa using RF_Near_f1 m q w hG hm hq1 hq2 hmn
  · simpa using RF_Near_t1 m q w hG hm hq1 hq2 hmn
  · by_cases ho : m % 2 = 1
    · simpa [ho] using RF_Near_f2o m q w hG hm hq1 hq2 hmn ho
    · have ho2 : m % 2 = 0 := by omega
      simpa [ho2] using RF_Near_f2e m q w hG hm hq1 hq2 hmn ho2
  · by_cases ho : m % 2 = 1
    · simpa [ho] using RF_Near_t2o m q w hG hm hq1 hq2 hmn ho
    · have ho2 : m % 2 = 0 := by omega
      simpa [ho2] using RF_Near_t2e m q w hG hm hq1 hq2 hmn ho2
  · simpa using RF_Near_f3 m q w hG hm hq1 hq2 hmn
  · simpa using RF_Near_t3 m q w hG hm hq1 hq2 hmn
set_option maxRecDepth 100000 in
theorem RHuge_Near (g : Bool) (w : World) (hG : Globs glT w) : Calls Tryz.prog 139 #[.bool g, .func (.func 90) #[] #[]] w fun e w' => e = .returned (.float .f64 (Bt.wf g (pk (mUp 0 g 9007199254740991 3) 971))) ∧ Below w.heap.size w w' := by
  have K : Hid (∀ w, Globs glT w → Calls Tryz.prog 140 #[.bool g, .int .u64 9007199254740991, .int .i64 971, .int .u8 3, .func (.func 90) #[] #[]] w fun e w' => e = .returned (.float .f64 (Bt.wf g (pk (mUp 0 g 9007199254740991 3) 971))) ∧ Below w.heap.size w w') := Lib.hid fun w hG => RF_Near_c g 9007199254740991 971 3 w hG (by omega) (by omega) (by omega) (by omega) (Or.inl (by omega))
  generalize Bt.wf g (pk (mUp 0 g 9007199254740991 3) 971) = z at *
  go_enter Tryz.func139, Tryz.ntmps139
  go_wp2_with fail
  refine (K.out _ hG).mono ?_
  rintro ee w1 ⟨rfl, hb⟩
  go_wp2_with fail
  go_ret
  exact ⟨rfl, hb⟩
end Go.Proofs.YtajcapliokblfaaGreatDoor
namespace Go.Proofs.YtajcapliokblfaaGreatDoor
open Go Go.RowKit Nt
def RB (w : World) (c : C3) (C : Nat) (f : C3) (A : Option Addr) (n : Nat) (A' : Option Addr) (d : Nat) (V : World) : Prop := Below w.heap.size w V ∧ Bx3 V w.heap.size c ∧ Bx3 V C f ∧ Row V V.heap.size A n (nd W n) ∧ Row V V.heap.size A' d (nd W d)
theorem RB.step {w : World} {c : C3} {C : Nat} {f : C3} {A : Option Addr} {n : Nat} {A' : Option Addr} {d : Nat} {V V' : World} (h : RB w c C f A n A' d V) (hb : Below V.heap.size V V') : RB w c C f A n A' d V' :=
  ⟨below_chain h.1 hb, h.2.1.step hb, h.2.2.1.step hb, (h.2.2.2.1.below hb).more hb.size, (h.2.2.2.2.below hb).more hb.size⟩
theorem RB.drew {w : World} {c : C3} {C : Nat} {f : C3} {A : Option Addr} {n : Nat} {A' : Option Addr} {d : Nat} {V : World} (h : RB w c C f A n A' d V) : RB w c C f A n A' d V.drew := h.step (Below.refl _ _).drew
theorem RB.drawn {w : World} {c : C3} {C : Nat} {f : C3} {A : Option Addr} {n : Nat} {A' : Option Addr} {d : Nat} {V : World} (h : RB w c C f A n A' d V) (k : Nat) : RB w c C f A n A' d (V.drewN k) := h.step (below_drewN (Below.refl _ _) k)
theorem RB.of {w : World} {c : C3} {V : World} {A : Option Addr} {n : Nat} {A' : Option Addr} {d : Nat} (h : BL w [c] V) (x y z : Value) (T : TypeId) (h1 : Row V V.heap.size A n (nd W n)) (h2 : Row V V.heap.size A' d (nd W d)) : RB w c V.heap.size (x, y, z) A n A' d (V.alloc (.cells #[x, y, z] T)) := by
  have hb : Below V.heap.size V (V.alloc (.cells #[x, y, z] T)) := (Below.refl _ _).alloc (Nat.le_refl _) _
  exact ⟨below_chain h.1 hb, (h.2 0 c rfl).step hb, Bx3.new V x y z T, (h1.below hb).more hb.size, (h2.below hb).more hb.size⟩
theorem RB.low {w : World} {c : C3} {C : Nat} {f : C3} {A : Option Addr} {n : Nat} {A' : Option Addr} {d : Nat} {V : World} (h : RB w c C f A n A' d V) : Below w.heap.size w V := h.1
theorem RB.b0 {w : World} {c : C3} {C : Nat} {f : C3} {A : Option Addr} {n : Nat} {A' : Option Addr} {d : Nat} {V : World} (h : RB w c C f A n A' d V) : Bx3 V w.heap.size c := h.2.1
theorem RB.b1 {w : World} {c : C3} {C : Nat} {f : C3} {A : Option Addr} {n : Nat} {A' : Option Addr} {d : Nat} {V : World} (h : RB w c C f A n A' d V) : Bx3 V C f := h.2.2.1
theorem RB.r0 {w : World} {c : C3} {C : Nat} {f : C3} {A : Option Addr} {n : Nat} {A' : Option Addr} {d : Nat} {V : World} (h : RB w c C f A n A' d V) : Row V V.heap.size A n (nd W n) := h.2.2.2.1
theorem RB.r1 {w : World} {c : C3} {C : Nat} {f : C3} {A : Option Addr} {n : Nat} {A' : Option Addr} {d : Nat} {V : World} (h : RB w c C f A n A' d V) : Row V V.heap.size A' d (nd W d) := h.2.2.2.2
set_option maxRecDepth 100000 in
theorem RLeast_c (T : Int) (w : World) (h1 : -1000000 ≤ T) (h2 : T ≤ 1000000) : Calls Tryz.prog 141 #[.int .i64 T] w fun e w' => e = .returned (.int .i64 (max (T - 52) (-1074))) ∧ Below w.heap.size w w' := by
  have hw : IntKind.i64.wrap (T - 52) = T - 52 := IntWalk.i64_in _ ⟨by omega, by omega⟩
  have hc : max (-1074) (T - 52) = max (T - 52) (-1074) := Int.max_comm _ _
  go_enter Tryz.func141, Tryz.ntmps141
  go_wp2_with fail
  go_ret
  exact ⟨by first | rfl | rw [hc], Below.refl _ _⟩
def SD (w : World) (c : C3) (C : Nat) (f : C3) (A : Option Addr) (n : Nat) (A' : Option Addr) (d : Nat) (B : Option Addr) (L : Nat) (B' : Option Addr) (Y : Nat) (V : World) : Prop := RB w c C f A n A' d V ∧ Row V V.heap.size B L (nd W L) ∧ Row V V.heap.size B' Y (nd W Y)
theorem SD.step {w : World} {c : C3} {C : Nat} {f : C3} {A : Option Addr} {n : Nat} {A' : Option Addr} {d : Nat} {B : Option Addr} {L : Nat} {B' : Option Addr} {Y : Nat} {V V' : World} (h : SD w c C f A n A' d B L B' Y V) (hb : Below V.heap.size V V') : SD w c C f A n A' d B L B' Y V' :=
  ⟨h.1.step hb, (h.2.1.below hb).more hb.size, (h.2.2.below hb).more hb.size⟩
theorem SD.drew {w : World} {c : C3} {C : Nat} {f : C3} {A : Option Addr} {n : Nat} {A' : Option Addr} {d : Nat} {B : Option Addr} {L : Nat} {B' : Option Addr} {Y : Nat} {V : World} (h : SD w c C f A n A' d B L B' Y V) : SD w c C f A n A' d B L B' Y V.drew := h.step (Below.refl _ _).drew
theorem SD.drawn {w : World} {c : C3} {C : Nat} {f : C3} {A : Option Addr} {n : Nat} {A' : Option Addr} {d : Nat} {B : Option Addr} {L : Nat} {B' : Option Addr} {Y : Nat} {V : World} (h : SD w c C f A n A' d B L B' Y V) (k : Nat) : SD w c C f A n A' d B L B' Y (V.drewN k) := h.step (below_drewN (Below.refl _ _) k)
theorem SD.low {w : World} {c : C3} {C : Nat} {f : C3} {A : Option Addr} {n : Nat} {A' : Option Addr} {d : Nat} {B : Option Addr} {L : Nat} {B' : Option Addr} {Y : Nat} {V : World} (h : SD w c C f A n A' d B L B' Y V) : Below w.heap.size w V := h.1.1
theorem SD.rb {w : World} {c : C3} {C : Nat} {f : C3} {A : Option Addr} {n : Nat} {A' : Option Addr} {d : Nat} {B : Option Addr} {L : Nat} {B' : Option Addr} {Y : Nat} {V : World} (h : SD w c C f A n A' d B L B' Y V) : RB w c C f A n A' d V := h.1
theorem SD.l {w : World} {c : C3} {C : Nat} {f : C3} {A : Option Addr} {n : Nat} {A' : Option Addr} {d : Nat} {B : Option Addr} {L : Nat} {B' : Option Addr} {Y : Nat} {V : World} (h : SD w c C f A n A' d B L B' Y V) : Row V V.heap.size B L (nd W L) := h.2.1
theorem SD.y {w : World} {c : C3} {C : Nat} {f : C3} {A : Option Addr} {n : Nat} {A' : Option Addr} {d : Nat} {B : Option Addr} {L : Nat} {B' : Option Addr} {Y : Nat} {V : World} (h : SD w c C f A n A' d B L B' Y V) : Row V V.heap.size B' Y (nd W Y) := h.2.2
theorem Small_to (m : Nat) (hm : m < 18446744073709551616) (w : World) : Calls Tryz.prog 142 #[.string (natS m)] w fun e w' => e = .returned (.tuple #[.int .u64 (m : Nat), .bool true]) ∧ Below w.heap.size w w' := by
  have h8 := br_lt.2 hm
  have h := Small_c m w (by unfold fits; omega)
  rwa [brN_yes h8, brB_yes h8] at h
set_option maxRecDepth 100000 in
set_option maxHeartbeats 1000000 in
theorem PRnd_hi (F : Value) (Z : Nat) (g : Bool) (n d : Nat) (w : World) (hn : fits n) (hd : fits d) (h0 : n ≠ 0) (hZ : 1023 < tpZ n d)
    (hM : ∀ w, Calls Tryz.prog 18 #[.agg #[.bool g, .string (natS n), .string (natS d)]] w fun e w' => e = .returned (.bool true) ∧ Below w.heap.size w w')
    (hH : ∀ w', Below w.heap.size w w' → Calls Tryz.prog 139 #[.bool g, F] w' fun e w'' => e = .returned (.float .f64 Z) ∧ Below w'.heap.size w' w'') :
    Calls Tryz.prog 89 #[.agg #[.bool g, .string (natS n), .string (natS d)], F] w fun e w' => e = .returned (.tuple #[.float .f64 Z, .int .i64 0]) ∧ Below w.heap.size w w' := by
  have KM := Lib.hid hM
  have KH := Lib.hid hH
  clear hM hH
  have T0 := BL.start1 w (.bool g) (.string (natS n)) (.string (natS d)) 24
  have KO := Lib.hid (fun w => Popen_c g n d w hn hd)
  have e1 := natS_full h0
  have e2 := natS_full2 h0
  have KT : Hid (∀ (A A' : Option Addr) (c c' : Nat) (W' : World), Row W' W'.heap.size A n (nd W n) → Row W' W'.heap.size A' d (nd W d) → Calls Tryz.prog 138 #[.agg #[.bool g, .slice A (nd W n) c, .slice A' (nd W d) c']] W' fun e w' => e = .returned (.int .i64 (tpZ n d)) ∧ Below W'.heap.size W' w') := Lib.hid fun A A' c c' W' r1 r2 => Ftop_c g n d A A' c c' W' hn hd r1 r2
  have HN := Lib.hid hn
  have HD := Lib.hid hd
  have H0 := Lib.hid h0
  clear hn hd h0
  generalize tpZ n d = T at *
  go_enter Tryz.func89, Tryz.ntmps89
  go_upto_region 5 with (first | (go_at_call 18; (with_reducible refine (KM.out _).mono ?_); rintro ee w1 ⟨rfl, hb⟩; replace T0 := T0.step hb; obtain ⟨p0, p1, p2, p3, p4, p5, p6⟩ := T0.box0; clear hb))
  go_upto_region 6 with (first | (go_at_call 81; (with_reducible refine (KO.out _).mono ?_); rintro ee wa ⟨A1, c1, A2, c2, rfl, hc1, hc2, hr1, hr2, hb1⟩; replace T0 := T0.step hb1; clear p0 p1 p2 p3 p4 p5 p6; obtain ⟨p0, p1, p2, p3, p4, p5, p6⟩ := T0.box0))
  have TR := RB.of T0 (.bool g) (.slice A1 (nd W n) c1) (.slice A2 (nd W d) c2) 77 hr1 hr2
  clear T0 p0 p1 p2 p3 p4 p5 p6 hr1 hr2 hb1 hc1 hc2 KO
  revert TR
  generalize wa.heap.size = C
  generalize wa.alloc _ = wb
  intro TR
  obtain ⟨q0, q1, q2, q3, q4, q5, q6⟩ := TR.b1.facts
  clear q4 q5 q6
  have q1 := q1
  go_wp2_with (first
    | (go_at_call 138; (with_reducible refine (KT.out _ _ _ _ _ TR.r0 TR.r1).mono ?_); rintro ee wc ⟨rfl, hb⟩; replace TR := TR.step hb; clear hb q0 q1 q2 q3; obtain ⟨q0, q1, q2, q3, q4, q5, q6⟩ := TR.b0.facts)
    | (go_at_call 139; (with_reducible refine (KH.out _ TR.low).mono ?_); rintro ee wd ⟨rfl, hb⟩; replace TR := TR.step hb; clear hb))
  go_ret2
  exact ⟨rfl, TR.low⟩
set_option maxRecDepth 100000 in
set_option maxHeartbeats 1000000 in
theorem PRnd_lo (F : Value) (Z : Nat) (g : Bool) (n d : Nat) (w : World) (hn : fits n) (hd : fits d) (h0 : n ≠ 0) (hZ : tpZ n d < -1075) (hZ2 : -1000000 ≤ tpZ n d)
    (hM : ∀ w, Calls Tryz.prog 18 #[.agg #[.bool g, .string (natS n), .string (natS d)]] w fun e w' => e = .returned (.bool true) ∧ Below w.heap.size w w')
    (hH : ∀ w', Below w.heap.size w w' → Calls Tryz.prog 140 #[.bool g, .int .u64 0, .int .i64 (-1074), .int .u8 1, F] w' fun e w'' => e = .returned (.float .f64 Z) ∧ Below w'.heap.size w' w'') :
    Calls Tryz.prog 89 #[.agg #[.bool g, .string (natS n), .string (natS d)], F] w fun e w' => e = .returned (.tuple #[.float .f64 Z, .int .i64 0]) ∧ Below w.heap.size w w' := by
  have KM := Lib.hid hM
  have KH := Lib.hid hH
  clear hM hH
  have T0 := BL.start1 w (.bool g) (.string (natS n)) (.string (natS d)) 24
  have KO := Lib.hid (fun w => Popen_c g n d w hn hd)
  have e1 := natS_full h0
  have e2 := natS_full2 h0
  have KT : Hid (∀ (A A' : Option Addr) (c c' : Nat) (W' : World), Row W' W'.heap.size A n (nd W n) → Row W' W'.heap.size A' d (nd W d) → Calls Tryz.prog 138 #[.agg #[.bool g, .slice A (nd W n) c, .slice A' (nd W d) c']] W' fun e w' => e = .returned (.int .i64 (tpZ n d)) ∧ Below W'.heap.size W' w') := Lib.hid fun A A' c c' W' r1 r2 => Ftop_c g n d A A' c c' W' hn hd r1 r2
  have HN := Lib.hid hn
  have HD := Lib.hid hd
  have H0 := Lib.hid h0
  clear hn hd h0
  generalize tpZ n d = T at *
  go_enter Tryz.func89, Tryz.ntmps89
  go_upto_region 5 with (first | (go_at_call 18; (with_reducible refine (KM.out _).mono ?_); rintro ee w1 ⟨rfl, hb⟩; replace T0 := T0.step hb; obtain ⟨p0, p1, p2, p3, p4, p5, p6⟩ := T0.box0; clear hb))
  go_upto_region 6 with (first | (go_at_call 81; (with_reducible refine (KO.out _).mono ?_); rintro ee wa ⟨A1, c1, A2, c2, rfl, hc1, hc2, hr1, hr2, hb1⟩; replace T0 := T0.step hb1; clear p0 p1 p2 p3 p4 p5 p6; obtain ⟨p0, p1, p2, p3, p4, p5, p6⟩ := T0.box0))
  have TR := RB.of T0 (.bool g) (.slice A1 (nd W n) c1) (.slice A2 (nd W d) c2) 77 hr1 hr2
  clear T0 p0 p1 p2 p3 p4 p5 p6 hr1 hr2 hb1 hc1 hc2 KO
  revert TR
  generalize wa.heap.size = C
  generalize wa.alloc _ = wb
  intro TR
  obtain ⟨q0, q1, q2, q3, q4, q5, q6⟩ := TR.b1.facts
  clear q4 q5 q6
  have q1 := q1
  have hZ3 : ¬ 1023 < T := by omega
  have KL : Hid (∀ W', Calls Tryz.prog 141 #[.int .i64 T] W' fun e w' => e = .returned (.int .i64 (-1074)) ∧ Below W'.heap.size W' w') := Lib.hid fun W' => by
    have h := RLeast_c T W' hZ2 (by omega)
    rwa [show max (T - 52) (-1074) = -1074 by omega] at h
  clear hZ2
  go_upto_region 10 with (first
    | (go_at_call 138; (with_reducible refine (KT.out _ _ _ _ _ TR.r0 TR.r1).mono ?_); rintro ee wc ⟨rfl, hb⟩; replace TR := TR.step hb; clear hb q0 q1 q2 q3; obtain ⟨q0, q1, q2, q3, q4, q5, q6⟩ := TR.b0.facts))
  have L0 : ∀ U, RB w (.bool g, .string (natS n), .string (natS d)) C (.bool g, .slice A1 (nd W n) c1, .slice A2 (nd W d) c2) A1 n A2 d U → U.cell? ⟨w.heap.size, 0, none⟩ = some (.bool g) := fun U hU => hU.b0.facts.2.1
  clear q0 q1 q2 q3 q4 q5 q6
  go_region_held3 (RB w (.bool g, .string (natS n), .string (natS d)) C (.bool g, .slice A1 (nd W n) c1, .slice A2 (nd W d) c2) A1 n A2 d) (first | assumption | exact RB.step (by assumption) (by assumption) | exact RB.drew (by assumption) | exact RB.drawn (by assumption) _)
    (first
      | (go_at_call 141; (with_reducible refine (KL.out _).mono ?_); rintro ee wd ⟨rfl, hb⟩)
      | (go_at_call 140; (with_reducible refine (KH.out _ (RB.low (by assumption))).mono ?_); rintro ee wd ⟨rfl, hb2⟩))
  all_goals
    rename_i hHeld
    have HF := Lib.hid hHeld.low
    clear hHeld L0
    go_wp2_with fail
    go_ret2
    exact ⟨rfl, HF.out⟩
set_option maxRecDepth 100000 in
set_option maxHeartbeats 2000000 in
theorem PRnd_mid (F : Value) (Z : Nat) (g : Bool) (n d : Nat) (w : World) (hn : fits n) (hd : fits d) (h0 : n ≠ 0) (hd0 : d ≠ 0) (hZ : tpZ n d ≤ 1023) (hZ2 : -1075 ≤ tpZ n d)
    (hM : ∀ w, Calls Tryz.prog 18 #[.agg #[.bool g, .string (natS n), .string (natS d)]] w fun e w' => e = .returned (.bool true) ∧ Below w.heap.size w w')
    (hH : ∀ w', Below w.heap.size w w' → Calls Tryz.prog 140 #[.bool g, .int .u64 ((rMq n d (rqZ n d) : Nat) : Int), .int .i64 (rqZ n d), .int .u8 (rsW (rLq n d (rqZ n d)) (rY d (rqZ n d))), F] w' fun e w'' => e = .returned (.float .f64 Z) ∧ Below w'.heap.size w' w'') :
    Calls Tryz.prog 89 #[.agg #[.bool g, .string (natS n), .string (natS d)], F] w fun e w' => e = .returned (.tuple #[.float .f64 Z, .int .i64 0]) ∧ Below w.heap.size w w' := by
  have KM := Lib.hid hM
  obtain ⟨q, hq⟩ : ∃ q, q = rqZ n d := ⟨_, rfl⟩
  rw [← hq] at hH
  have hM53 := rMq_lt h0 hd0
  rw [← hq] at hM53
  have hqT : max (tpZ n d - 52) (-1074) = q := by rw [hq]; rfl
  obtain ⟨k1, hk1⟩ : ∃ k : Nat, (k : Int) = max (-q) 0 := ⟨(max (-q) 0).toNat, by omega⟩
  obtain ⟨k2, hk2⟩ : ∃ k : Nat, (k : Int) = max q 0 := ⟨(max q 0).toNat, by omega⟩
  have er1 : rk1 q = k1 := by unfold rk1; omega
  have er2 : rk2 q = k2 := by unfold rk2; omega
  have hk1b : k1 ≤ 131072 := by omega
  have hk2b : k2 ≤ 131072 := by omega
  have z1 := fits_words hn
  have z2 := fits_words hd
  obtain ⟨X, hX⟩ : ∃ X, X = rX n q := ⟨_, rfl⟩
  obtain ⟨Y, hY⟩ : ∃ Y, Y = rY d q := ⟨_, rfl⟩
  obtain ⟨M, hMe⟩ : ∃ M, M = rMq n d q := ⟨_, rfl⟩
  obtain ⟨L, hL⟩ : ∃ L, L = rLq n d q := ⟨_, rfl⟩
  have hX2 : n * 2 ^ k1 = X := by rw [hX]; unfold rX; rw [er1]
  have hY2 : d * 2 ^ k2 = Y := by rw [hY]; unfold rY; rw [er2]
  have hXb : nd W X ≤ 10000 := by rw [← hX2]; exact nd_shl (by omega) hk1b
  have hYb : nd W Y ≤ 10000 := by rw [← hY2]; exact nd_shl (by omega) hk2b
  have hY0 : Y ≠ 0 := by rw [hY]; exact rY_pos hd0 q
  have hMX : M = X / Y := by rw [hMe, hX, hY]; rfl
  have hLX : L = X % Y := by rw [hL, hX, hY]; rfl
  rw [← hMe, ← hL, ← hY] at hH
  rw [← hMe] at hM53
  have hLb : nd W L ≤ 10000 := by rw [hLX]; exact Nat.le_trans (nd_mono W2 (Nat.le_of_lt (Nat.mod_lt _ (Nat.pos_of_ne_zero hY0)))) hYb
  have hMb : nd W M ≤ 10000 := by rw [hMX]; exact Nat.le_trans (nd_mono W2 (Nat.div_le_self _ _)) hXb
  have KL : Hid (∀ W', Calls Tryz.prog 141 #[.int .i64 (tpZ n d)] W' fun e w' => e = .returned (.int .i64 q) ∧ Below W'.heap.size W' w') := Lib.hid fun W' => by
    have h := RLeast_c (tpZ n d) W' (by omega) (by omega)
    rwa [hqT] at h
  have KS1 : Hid (∀ (A : Option Addr) (c : Nat) (W' : World), Row W' W'.heap.size A n (nd W n) → Calls Tryz.prog 118 #[.slice A (nd W n) c, .int .i64 (k1 : Nat)] W' (NumPost X W')) := Lib.hid fun A c W' hr => by
    rw [← hX2]; exact Shl_c A c n k1 W'.heap.size W' (by omega) hr (Nat.le_refl _)
  have KS2 : Hid (∀ (A : Option Addr) (c : Nat) (W' : World), Row W' W'.heap.size A d (nd W d) → Calls Tryz.prog 118 #[.slice A (nd W d) c, .int .i64 (k2 : Nat)] W' (NumPost Y W')) := Lib.hid fun A c W' hr => by
    rw [← hY2]; exact Shl_c A c d k2 W'.heap.size W' (by omega) hr (Nat.le_refl _)
  have KD : Hid (∀ (A A' : Option Addr) (c c' : Nat) (W' : World), Row W' W'.heap.size A X (nd W X) → Row W' W'.heap.size A' Y (nd W Y) → Calls Tryz.prog 112 #[.slice A (nd W X) c, .slice A' (nd W Y) c'] W' (DivPost M L W')) := Lib.hid fun A A' c c' W' r r' => by
    rw [hMX, hLX]; exact Div_all A A' c c' X Y W' hY0 (by omega) (by omega) r r'
  have KB : Hid (∀ (A : Option Addr) (c : Nat) (W' : World), Row W' W'.heap.size A M (nd W M) → Calls Tryz.prog 114 #[.slice A (nd W M) c] W' (fun e w' => e = .returned (.string (natS M)) ∧ Below W'.heap.size W' w')) := Lib.hid fun A c W' hr => Bytes_c A c M W'.heap.size W' (by omega) hr (Nat.le_refl _)
  have KSm := Lib.hid fun w => Small_to M (by omega) w
  have KR : Hid (∀ (A A' : Option Addr) (c c' : Nat) (W' : World), Row W' W'.heap.size A L (nd W L) → Row W' W'.heap.size A' Y (nd W Y) → Calls Tryz.prog 143 #[.slice A (nd W L) c, .slice A' (nd W Y) c'] W' fun e w' => e = .returned (.int .u8 (rsW L Y)) ∧ Below W'.heap.size W' w') := Lib.hid fun A A' c c' W' r r' => Prest_c L Y A A' c c' W' (by omega) (by omega) r r'
  have KH := Lib.hid hH
  have hZ3 : ¬ 1023 < tpZ n d := by omega
  have hZ4 : ¬ tpZ n d < -1075 := by omega
  have hw2 : IntKind.i64.wrap (-q) = -q := IntWalk.i64_in _ ⟨by omega, by omega⟩
  have hm1 : max (-q) 0 = (k1 : Int) := hk1.symm
  have hm2 : max 0 (-q) = (k1 : Int) := by omega
  have hm3 : max q 0 = (k2 : Int) := hk2.symm
  have hm4 : max 0 q = (k2 : Int) := by omega
  clear hM hH hM53 hk1 hk2 er1 er2 hk1b hk2b z1 z2 hX hY hMe hL hX2 hY2 hXb hYb hY0 hMX hLX hLb hMb hZ hZ2 hqT hq
  have T0 := BL.start1 w (.bool g) (.string (natS n)) (.string (natS d)) 24
  have KO := Lib.hid (fun w => Popen_c g n d w hn hd)
  have e1 := natS_full h0
  have e2 := natS_full2 h0
  have KT : Hid (∀ (A A' : Option Addr) (c c' : Nat) (W' : World), Row W' W'.heap.size A n (nd W n) → Row W' W'.heap.size A' d (nd W d) → Calls Tryz.prog 138 #[.agg #[.bool g, .slice A (nd W n) c, .slice A' (nd W d) c']] W' fun e w' => e = .returned (.int .i64 (tpZ n d)) ∧ Below W'.heap.size W' w') := Lib.hid fun A A' c c' W' r1 r2 => Ftop_c g n d A A' c c' W' hn hd r1 r2
  have HN := Lib.hid hn
  have HD := Lib.hid hd
  have H0 := Lib.hid h0
  clear hn hd h0
  generalize tpZ n d = T at *
  generalize rsW L Y = r at *
  go_enter Tryz.func89, Tryz.ntmps89
  go_upto_region 5 with (first | (go_at_call 18; (with_reducible refine (KM.out _).mono ?_); rintro ee w1 ⟨rfl, hb⟩; replace T0 := T0.step hb; obtain ⟨p0, p1, p2, p3, p4, p5, p6⟩ := T0.box0; clear hb))
  go_upto_region 6 with (first | (go_at_call 81; (with_reducible refine (KO.out _).mono ?_); rintro ee wa ⟨A1, c1, A2, c2, rfl, hc1, hc2, hr1, hr2, hb1⟩; replace T0 := T0.step hb1; clear p0 p1 p2 p3 p4 p5 p6; obtain ⟨p0, p1, p2, p3, p4, p5, p6⟩ := T0.box0))
  have TR := RB.of T0 (.bool g) (.slice A1 (nd W n) c1) (.slice A2 (nd W d) c2) 77 hr1 hr2
  clear T0 p0 p1 p2 p3 p4 p5 p6 hr1 hr2 hb1 hc1 hc2 KO
  revert TR
  generalize wa.heap.size = C
  generalize wa.alloc _ = wb
  intro TR
  obtain ⟨q0, q1, q2, q3, q4, q5, q6⟩ := TR.b1.facts
  clear q4 q5 q6
  have q1 := q1
  go_upto_region 12 with (first
    | (go_at_call 138; (with_reducible refine (KT.out _ _ _ _ _ TR.r0 TR.r1).mono ?_); rintro ee wc ⟨rfl, hb⟩; replace TR := TR.step hb; clear hb q0 q1 q2 q3)
    | (go_at_call 141; (with_reducible refine (KL.out _).mono ?_); rintro ee wd ⟨rfl, hb⟩; replace TR := TR.step hb; clear hb; obtain ⟨q0, q1, q2, q3, q4, q5, q6⟩ := TR.b1.facts))
  clear hZ3 hZ4
  go_upto_region 13 with (first
    | (go_at_call 118; (with_reducible refine (KS2.out _ _ _ TR.r1).mono ?_); rintro ee we hp; obtain ⟨A3, c3, rfl, hc3, hr3, hb⟩ := hp.get; clear hp; replace TR := TR.step hb; clear hb q0 q1 q2 q3 q4 q5 q6; obtain ⟨q0, q1, q2, q3, q4, q5, q6⟩ := TR.b1.facts))
  go_upto_region 14 with (first
    | (go_at_call 118; (with_reducible refine (KS1.out _ _ _ TR.r0).mono ?_); rintro ee wf hp; obtain ⟨A4, c4, rfl, hc4, hr4, hb⟩ := hp.get; clear hp; replace TR := TR.step hb; have hr3' := (hr3.below hb).more hb.size; clear hb hr3 q0 q1 q2 q3 q4 q5 q6)
    | (go_at_call 112; (with_reducible refine (KD.out _ _ _ _ _ hr4 hr3').mono ?_); rintro ee wg hp; obtain ⟨A5, c5, A6, c6, rfl, hc5, hc6, hr5, hr6, hb⟩ := hp; replace TR := TR.step hb; have hr3 := (hr3'.below hb).more hb.size; clear hb hr3' hr4))
  go_upto_region 15 with (first
    | (go_at_call 114; (with_reducible refine (KB.out _ _ _ hr5).mono ?_); rintro ee wh ⟨rfl, hb⟩; replace TR := TR.step hb; have hr3' := (hr3.below hb).more hb.size; have hr6' := (hr6.below hb).more hb.size; clear hb hr3 hr5 hr6)
    | (go_at_call 142; (with_reducible refine (KSm.out _).mono ?_); rintro ee wi ⟨rfl, hb⟩; replace TR := TR.step hb; have hr3 := (hr3'.below hb).more hb.size; have hr6 := (hr6'.below hb).more hb.size; clear hb hr3' hr6'))
  have TS : SD w (.bool g, .string (natS n), .string (natS d)) C (.bool g, .slice A1 (nd W n) c1, .slice A2 (nd W d) c2) A1 n A2 d A6 L A3 Y _ := ⟨TR, hr6, hr3⟩
  have L0 : ∀ U, SD w (.bool g, .string (natS n), .string (natS d)) C (.bool g, .slice A1 (nd W n) c1, .slice A2 (nd W d) c2) A1 n A2 d A6 L A3 Y U → U.cell? ⟨w.heap.size, 0, none⟩ = some (.bool g) := fun U hU => hU.rb.b0.facts.2.1
  clear TR hr6 hr3 KS1 KS2 KD KB KSm KL KT
  go_region_held3 (SD w (.bool g, .string (natS n), .string (natS d)) C (.bool g, .slice A1 (nd W n) c1, .slice A2 (nd W d) c2) A1 n A2 d A6 L A3 Y) (first | assumption | exact SD.step (by assumption) (by assumption) | exact SD.drew (by assumption) | exact SD.drawn (by assumption) _)
    (first
      | (go_at_call 143; (with_reducible refine (KR.out _ _ _ _ _ (SD.l (by assumption)) (SD.y (by assumption))).mono ?_); rintro ee wd ⟨rfl, hb⟩)
      | (go_at_call 140; (with_reducible refine (KH.out _ (SD.low (by assumption))).mono ?_); rintro ee wd ⟨rfl, hb2⟩))
  all_goals
    rename_i hHeld
    have HF := Lib.hid hHeld.low
    clear hHeld L0
    go_wp2_with fail
    go_ret2
    exact ⟨rfl, HF.out⟩
end Go.Proofs.YtajcapliokblfaaGreatDoor
namespace Go.Proofs.YtajcapliokblfaaGreatDoor
open Go Go.RowKit Nt
@[irreducible] def RW (k : Nat) (g : Bool) (n d : Nat) : Nat := if tpZ n d ≤ 1023 then Bt.wf g (pk (mUp k g (rMq n d (rqZ n d)) (rsW (rLq n d (rqZ n d)) (rY d (rqZ n d)))) (rqZ n d)) else Bt.wf g (pk (mUp k g 9007199254740991 3) 971)
theorem RW_hi {k : Nat} {g : Bool} {n d : Nat} (h : 1023 < tpZ n d) : RW k g n d = Bt.wf g (pk (mUp k g 9007199254740991 3) 971) := by unfold RW; rw [if_neg (by omega)]
theorem RW_mid {k : Nat} {g : Bool} {n d : Nat} (h : tpZ n d ≤ 1023) : RW k g n d = Bt.wf g (pk (mUp k g (rMq n d (rqZ n d)) (rsW (rLq n d (rqZ n d)) (rY d (rqZ n d)))) (rqZ n d)) := by unfold RW; rw [if_pos h]
theorem RW_lo {k : Nat} {g : Bool} {n d : Nat} (hn : n ≠ 0) (hd : d ≠ 0) (h : tpZ n d < -1075) : RW k g n d = Bt.wf g (pk (mUp k g 0 1) (-1074)) := by
  obtain ⟨h1, h2, h3⟩ := rMq_tiny hn hd h
  rw [RW_mid (by omega), h1, h2, h3]
theorem rsW_b (L D : Nat) : 0 ≤ rsW L D ∧ rsW L D ≤ 3 := by
  obtain ⟨u1, u2⟩ := cmp_b (L * 2) D
  by_cases h : L = 0
  · rw [h, rsW_0]; omega
  · rw [rsW_n h]; omega
theorem PRnd_Near (g : Bool) (n d : Nat) (w : World) (hG : Globs glT w) (hn : fits n) (hd : fits d) (h0 : n ≠ 0) (hd0 : d ≠ 0) (hM : ∀ w, Calls Tryz.prog 18 #[.agg #[.bool g, .string (natS n), .string (natS d)]] w fun e w' => e = .returned (.bool true) ∧ Below w.heap.size w w') :
    Calls Tryz.prog 89 #[.agg #[.bool g, .string (natS n), .string (natS d)], .func (.func 90) #[] #[]] w fun e w' => e = .returned (.tuple #[.float .f64 (RW 0 g n d), .int .i64 0]) ∧ Below w.heap.size w w' := by
  by_cases c1 : 1023 < tpZ n d
  · rw [RW_hi c1]
    exact PRnd_hi _ _ g n d w hn hd h0 c1 hM (fun w' hb => RHuge_Near g w' (hG.below hb (Nat.le_refl _)))
  · by_cases c2 : tpZ n d < -1075
    · rw [RW_lo h0 hd0 c2]
      refine PRnd_lo _ _ g n d w hn hd h0 c2 ?_ hM (fun w' hb => RF_Near_c g 0 (-1074) 1 w' (hG.below hb (Nat.le_refl _)) (by omega) (by omega) (by omega) (by omega) (Or.inr rfl))
      obtain ⟨u1, u2, u3, u4⟩ := tp_spec h0 hd0
      have b2 := bits_131072' hd
      omega
    · rw [RW_mid (by omega)]
      obtain ⟨v1, v2⟩ := rqZ_b n d (by omega)
      exact PRnd_mid _ _ g n d w hn hd h0 hd0 (by omega) (by omega) hM (fun w' hb => RF_Near_c g _ _ _ w' (hG.below hb (Nat.le_refl _)) (rsW_b _ _) (rMq_lt h0 hd0) v1 v2 (rMq_norm h0 hd0))
set_option maxRecDepth 100000 in
theorem PRnd_zero (F : Value) (g : Bool) (d : Nat) (w : World) (hM : ∀ w, Calls Tryz.prog 18 #[.agg #[.bool g, .string (natS 0), .string (natS d)]] w fun e w' => e = .returned (.bool true) ∧ Below w.heap.size w w') :
    Calls Tryz.prog 89 #[.agg #[.bool g, .string (natS 0), .string (natS d)], F] w fun e w' => e = .returned (.tuple #[.float .f64 0, .int .i64 0]) ∧ Below w.heap.size w w' := by
  have T0 := BL.start1 w (.bool g) (.string (natS 0)) (.string (natS d)) 24
  have K1 := Lib.hid hM
  have e1 : (natS 0).toList = [] := natS_empty rfl
  clear hM
  go_enter Tryz.func89, Tryz.ntmps89
  go_wp2_with (first | (go_at_call 18; (with_reducible refine (K1.out _).mono ?_); rintro ee w1 ⟨rfl, hb⟩; replace T0 := T0.step hb; obtain ⟨p0, p1, p2, p3, p4, p5, p6⟩ := T0.box0; clear hb))
  go_ret2
  exact ⟨rfl, T0.1⟩
@[irreducible] noncomputable def QW (k : Nat) (q : Rat) : Nat := if qN q = 0 then 0 else RW k (qG q) (qN q) (qD q)
theorem PFloat_c (q : Rat) (w : World) (hG : Globs glT w) (h : qfits q) :
    Calls Tryz.prog 35 #[qv q] w fun e w' => e = .returned (.tuple #[.float .f64 (QW 0 q), .int .i64 0]) ∧ Below w.heap.size w w' := by
  have T0 := BL.start1 w (.bool (qG q)) (.string (natS (qN q))) (.string (natS (qD q))) 24
  have hb0 := T0.1
  have hG2 := Lib.hid hG
  have K : Hid (∀ w, Globs glT w → Calls Tryz.prog 89 #[qv q, .func (.func 90) #[] #[]] w fun e w' => e = .returned (.tuple #[.float .f64 (QW 0 q), .int .i64 0]) ∧ Below w.heap.size w w') := Lib.hid (fun w hG => by
    have hM := fun w => PMay_yes q w h
    by_cases h0 : qN q = 0
    · have e : QW 0 q = 0 := by unfold QW; exact if_pos h0
      rw [e]
      unfold qv at hM ⊢
      rw [h0] at hM ⊢
      exact PRnd_zero _ _ _ w hM
    · have e : QW 0 q = RW 0 (qG q) (qN q) (qD q) := by unfold QW; exact if_neg h0
      rw [e]
      exact PRnd_Near _ _ _ w hG h.1 h.2 h0 (qD_pos q) hM)
  clear hG h
  generalize QW 0 q = z at *
  unfold qv at *
  go_enter Tryz.func35, Tryz.ntmps35
  go_wp2_with (first | (go_at_call 89; (with_reducible refine (K.out _ (hG2.out.below hb0 (Nat.le_refl _))).mono ?_); rintro ee w1 ⟨rfl, hb⟩; replace T0 := T0.step hb; clear hb))
  go_ret2
  exact ⟨rfl, T0.1⟩
end Go.Proofs.YtajcapliokblfaaGreatDoor
namespace Go.Proofs.YtajcapliokblfaaGreatDoor
open Go Go.RowKit Nt
@[irreducible] def aM (n d : Nat) : Nat := if tpZ n d ≤ 1023 then rMq n d (rqZ n d) else 9007199254740991
@[irreducible] def aQ (n d : Nat) : Int := if tpZ n d ≤ 1023 then rqZ n d else 971
@[irreducible] def aR (n d : Nat) : Int := if tpZ n d ≤ 1023 then rsW (rLq n d (rqZ n d)) (rY d (rqZ n d)) else 3
theorem a_hi {n d : Nat} (h : 1023 < tpZ n d) : aM n d = 9007199254740991 ∧ aQ n d = 971 ∧ aR n d = 3 := by
  unfold aM aQ aR; rw [if_neg (by omega), if_neg (by omega), if_neg (by omega)]; exact ⟨rfl, rfl, rfl⟩
theorem a_mid {n d : Nat} (h : tpZ n d ≤ 1023) : aM n d = rMq n d (rqZ n d) ∧ aQ n d = rqZ n d ∧ aR n d = rsW (rLq n d (rqZ n d)) (rY d (rqZ n d)) := by
  unfold aM aQ aR; rw [if_pos h, if_pos h, if_pos h]; exact ⟨rfl, rfl, rfl⟩
theorem RW_a (k : Nat) (g : Bool) (n d : Nat) : RW k g n d = Bt.wf g (pk (mUp k g (aM n d) (aR n d)) (aQ n d)) := by
  by_cases h : 1023 < tpZ n d
  · obtain ⟨e1, e2, e3⟩ := a_hi h
    rw [RW_hi h, e1, e2, e3]
  · obtain ⟨e1, e2, e3⟩ := a_mid (show tpZ n d ≤ 1023 by omega)
    rw [RW_mid (by omega), e1, e2, e3]
theorem wf_false (x : Nat) : Bt.wf false x = x := by rw [Bt.wf_eq]; rfl
theorem rMk_ok (m : Nat) (q : Int) (w : World) (h1 : m ≤ 9007199254740992) (hq : -1074 ≤ q) (hq2 : q ≤ 971) (hm : 4503599627370496 ≤ m ∨ q = -1074) (hn : ¬ (m = 9007199254740992 ∧ q = 971)) :
    Calls Tryz.prog 148 #[.bool false, .int .u64 (m : Nat), .int .i64 q] w fun r w' => r = .returned (.tuple #[.float .f64 (pk m q), .bool true]) ∧ w = w' := by
  by_cases h0 : m = 0
  · have hq0 : q = -1074 := by omega
    subst h0 hq0
    have e : pk 0 (-1074) = 0 := by rw [pk_eq]; decide
    rw [e]
    have h := Bt.rMake_zero false (-1074) w
    rwa [wf_false] at h
  · obtain ⟨k1, k2⟩ := mk_pk (by omega) h1 hq hq2 hm hn
    have h := Bt.rMake_ok false m (by omega) (by omega) q (by omega) (by omega) k1 w
    rwa [k2, wf_false] at h
theorem rMk_no (w : World) :
    Calls Tryz.prog 148 #[.bool false, .int .u64 9007199254740992, .int .i64 971] w fun r w' => r = .returned (.tuple #[.float .f64 0, .bool false]) ∧ w = w' := by
  refine Bt.rMake_bad false 9007199254740992 (by omega) (by omega) 971 (by omega) (by omega) (fun c => ?_) w
  have e1 : Bt.od 9007199254740992 = 1 := by decide +kernel
  have e2 : Bt.tz 9007199254740992 = 53 := by decide +kernel
  have e3 : Lib.bitLen 1 = 1 := by decide +kernel
  unfold Bt.mkOk at c
  rw [e1, e2, e3] at c
  omega
theorem Inf_14 (w : World) : Calls Tryz.prog 146 #[.int .i64 1] w fun e w' => e = .returned (.float .f64 9218868437227405312) ∧ w = w' := by
  have h12 : ∀ w, (callFunc 52 #[.int .u64 9218868437227405312]).run Tryz.prog w = .ok (.value (.float .f64 9218868437227405312)) w := fun w => by kernel_rfl
  go_enter Tryz.func146, Tryz.ntmps146
  go_wp2
  go_ret
  exact ⟨rfl, rfl⟩
theorem mul_bytes (a k : Nat) : nd 256 (a * 2 ^ k) ≤ nd 256 a + (k / 8 + 1) := by
  refine nd_le (by omega) ?_
  rw [Nat.pow_add]
  refine Nat.mul_lt_mul_of_lt_of_le (lt_nd (by omega)) ?_ (Nat.pow_pos (by omega))
  rw [show (256 : Nat) = 2 ^ 8 from rfl, ← Nat.pow_mul]
  exact Nat.pow_le_pow_right (by omega) (by omega)
theorem rShift_to (a k : Nat) (w : World) (hb : nd 256 a ≤ 4300) (hk : k ≤ 8000) :
    Calls Tryz.prog 66 #[.string (natS a), .int .i64 (k : Nat)] w (StrPost (natS (a * 2 ^ k)) 0 w) := by
  have hf : fits (a * 2 ^ k) := by
    unfold fits
    refine Nat.le_trans (mul_bytes a k) ?_
    omega
  by_cases h0 : a = 0 ∨ k = 0
  · have e : a * 2 ^ k = a := by rcases h0 with rfl | rfl <;> simp
    rw [e]
    exact rShift_same a k w (by rcases h0 with h | h; exact Or.inl h; exact Or.inr (by omega))
  · have h := rShift_up a k w (fun c => h0 (Or.inl c)) (fun c => h0 (Or.inr c)) (by unfold fits; omega)
    rwa [resS_ok hf, resE_ok hf] at h
end Go.Proofs.YtajcapliokblfaaGreatDoor
namespace Go.Proofs.YtajcapliokblfaaGreatDoor
open Go Go.RowKit Nt
set_option maxRecDepth 100000 in
set_option maxHeartbeats 400000 in
theorem rSmall_c (n : Nat) (w : World) (hf : fits n) (hz : (natS n).size ≤ 9223372036854775807) :
    Calls Tryz.prog 147 #[.string (natS n)] w fun e w' => e = .returned (.tuple #[.int .u64 (brN n : Nat), .bool (brB n)]) ∧ w = w' := by
  have hsz := natS_size n
  have hmay := Lib.hid (fun w => rMay_c (natS n) w hz)
  have hmb := mayB_yes ((may_natS n).2 hf)
  unfold fits at hf
  by_cases h : nd 256 n ≤ 8
  · have HB := Lib.hid (brB_yes h)
    have HN := Lib.hid (brN_yes h)
    have hlt8 : n < 18446744073709551616 := br_lt.1 h
    have HL := Lib.hid hlt8
    have h8 : ¬ 8 < nd 256 n := by omega
    clear hlt8 hz
    go_enter Tryz.func147, Tryz.ntmps147
    go_wp2_with (go_at_call 61; refine (hmay.out _).mono ?_; rintro e w' ⟨rfl, rfl⟩)
    go_loop [4, 5] (fun v i => ∃ k : Nat, k ≤ nd 256 n ∧ i = .int .i64 k ∧ v = .int .u64 (preN n k : Nat)) (fun _ i => nd 256 n - (intOf i).toNat)
    case atStart => exact ⟨0, Nat.zero_le _, rfl, by rw [preN_zero]; rfl⟩
    case round =>
      obtain ⟨k, hk, rfl, rfl⟩ := hrel
      by_cases hlt : k < nd 256 n
      · have hks : k < (natS n).size := by omega
        have e := natS_get n k hks
        have es := preN_succ n k hlt
        have hp1 := preN_le n (k + 1)
        have hHL := HL.out
        have hb := (natS n)[k].toNat_lt
        have e1 : IntKind.u64.wrap (256 * (preN n k : Nat)) = ((256 * preN n k : Nat) : Int) := by rw [IntKind.wrap_u64]; omega
        have e2 : IntKind.u64.wrap (((natS n)[k].toNat : Nat) : Int) = (((natS n)[k].toNat : Nat) : Int) := by rw [IntKind.wrap_u64]; omega
        have e3 : IntKind.u64.wrap (256 * (preN n k : Int) + (((natS n)[k].toNat : Nat) : Int)) = ((preN n (k + 1) : Nat) : Int) := by rw [IntKind.wrap_u64]; omega
        have E := Lib.hid e
        have ES := Lib.hid es
        clear e es hp1 hHL
        go_wp2
        go_round
        case rel => exact ⟨k + 1, by omega, by go_num, by first | rfl | rw [e3]⟩
        case measure => simp [intOf]; omega
      · obtain rfl : k = nd 256 n := by omega
        rw [preN_full]
        go_wp2
        go_ret2
        exact ⟨by rw [HB.out, HN.out]; rfl, rfl⟩
  · have HB := Lib.hid (brB_no h)
    have HN := Lib.hid (brN_no h)
    have h8 : 8 < nd 256 n := by omega
    have h8I : (8 : Int) < (nd 256 n : Int) := by omega
    clear hz
    go_enter Tryz.func147, Tryz.ntmps147
    go_wp2_with (go_at_call 61; refine (hmay.out _).mono ?_; rintro e w' ⟨rfl, rfl⟩)
    go_ret2
    exact ⟨by rw [HB.out, HN.out]; rfl, rfl⟩
end Go.Proofs.YtajcapliokblfaaGreatDoor
namespace Go.Proofs.YtajcapliokblfaaGreatDoor
open Go Go.RowKit Nt
@[irreducible] def aE (n d : Nat) : Bool := decide (aM n d % 2 = 0)
theorem pk_inf : pk 9007199254740992 971 = 9218868437227405312 := by rw [pk_eq]; decide
theorem pk_most : pk 9007199254740991 971 = 9218868437227405311 := by rw [pk_eq]; decide
def ARes (n d : Nat) : Value := .tuple #[.float .f64 (pk (aM n d) (aQ n d)), .float .f64 (pk (aM n d + 1) (aQ n d)), .int .i64 (aR n d - 2), .bool (aE n d)]
theorem ARes_hi {n d : Nat} (h : 1023 < tpZ n d) : ARes n d = .tuple #[.float .f64 9218868437227405311, .float .f64 9218868437227405312, .int .i64 1, .bool false] := by
  obtain ⟨e1, e2, e3⟩ := a_hi h
  unfold ARes aE
  rw [e1, e2, e3, pk_most, pk_inf]
  rfl
set_option maxRecDepth 100000 in
set_option maxHeartbeats 2000000 in
theorem rAround4_c (g : Bool) (n d : Nat) (w : World) (h0 : n ≠ 0) (hd0 : d ≠ 0) (h1 : nd 256 n ≤ 4000) (h2 : nd 256 d ≤ 4000) :
    Calls Tryz.prog 94 #[.agg #[.bool g, .string (natS n), .string (natS d)]] w fun e w' => e = .returned (ARes n d) ∧ Below w.heap.size w w' := by
  have T0 := BL.start1 w (.bool g) (.string (natS n)) (.string (natS d)) 24
  obtain ⟨p0, p1, p2, p3, p4, p5, p6⟩ := T0.box0
  have b1 : nd 2 n ≤ 32000 := by have := bytes_bits n; omega
  have b2 : nd 2 d ≤ 32000 := by have := bytes_bits d; omega
  have KL1 := Lib.hid fun w => rLen_c n w (by unfold fits; omega)
  have KL2 := Lib.hid fun w => rLen_c d w (by unfold fits; omega)
  obtain ⟨s, hs⟩ : ∃ s : Int, s = max (-1074) ((nd 2 n : Int) - nd 2 d - 54) := ⟨_, rfl⟩
  have hw1 : IntKind.i64.wrap ((nd 2 n : Int) - nd 2 d) = (nd 2 n : Int) - nd 2 d := IntWalk.i64_in _ ⟨by omega, by omega⟩
  have hw2 : IntKind.i64.wrap ((nd 2 n : Int) - nd 2 d - 54) = (nd 2 n : Int) - nd 2 d - 54 := IntWalk.i64_in _ ⟨by omega, by omega⟩
  have hm1 : max (-1074) ((nd 2 n : Int) - nd 2 d - 54) = s := hs.symm
  obtain ⟨t1, t2, t3, t4⟩ := tp_spec h0 hd0
  have SB : s ≤ 40000 := by omega
  have HS := Lib.hid (show s ≤ rqZ n d ∧ -1074 ≤ s by unfold rqZ; omega)
  have HRes := Lib.hid (show ARes n d = ARes n d from rfl)
  clear hs t1 t2 t3 t4 b1 b2
  go_enter Tryz.func94, Tryz.ntmps94
  go_wp2_with fail
  go_quiet (fail)
  replace T0 := T0.drawn nq
  have TB := Lib.hid T0.1
  clear p0 p1 p2 p3 p4 p5 p6 T0
  revert TB
  generalize World.drewN _ _ = w1
  intro TB
  go_wp2_with (first
    | (go_at_call 145; (with_reducible refine (KL1.out _).mono ?_); rintro ee wx ⟨rfl, rfl⟩)
    | (go_at_call 145; (with_reducible refine (KL2.out _).mono ?_); rintro ee wx ⟨rfl, rfl⟩))
  clear hw1 hw2 hm1 KL1 KL2 HRes
  have HN := Lib.hid h1
  have HD := Lib.hid h2
  have HN0 := Lib.hid h0
  have HD0 := Lib.hid hd0
  clear h1 h2 h0 hd0
  go_loopw [8] (fun v wr => ∃ z : Int, v = .int .i64 z ∧ -1074 ≤ z ∧ z ≤ 40000 ∧ Hid (z ≤ rqZ n d) ∧ Hid (Below w.heap.size w wr)) (fun v _ => (972 - intOf v).toNat)
  case atStart => exact ⟨s, rfl, HS.out.2, SB, Lib.hid HS.out.1, TB⟩
  case round =>
    obtain ⟨z, rfl, hz1, hz2, HZ, HB⟩ := hrel
    by_cases c1 : 971 < z
    · have hT : 1023 < tpZ n d := by have := HZ.out; unfold rqZ at this; omega
      have HR := Lib.hid (ARes_hi hT)
      clear hT HZ
      go_wp2_with (first | (go_at_call 146; (with_reducible refine (Inf_14 _).mono ?_); rintro ee wx ⟨rfl, rfl⟩))
      refine bodyPost_ret (v := .tuple #[.float .f64 9218868437227405311, .float .f64 9218868437227405312, .int .i64 1, .bool false]) (by simp [results, Tryz.results94, go_sem]) rfl ⟨by rw [HR.out], HB.out⟩
    · obtain ⟨k1, hk1⟩ : ∃ k : Nat, (k : Int) = max 0 (-z) := ⟨(max 0 (-z)).toNat, by omega⟩
      obtain ⟨k2, hk2⟩ : ∃ k : Nat, (k : Int) = max 0 z := ⟨(max 0 z).toNat, by omega⟩
      have er1 : rk1 z = k1 := by unfold rk1; omega
      have er2 : rk2 z = k2 := by unfold rk2; omega
      obtain ⟨X, hX⟩ : ∃ X, X = rX n z := ⟨_, rfl⟩
      obtain ⟨Y, hY⟩ : ∃ Y, Y = rY d z := ⟨_, rfl⟩
      obtain ⟨M, hM⟩ : ∃ M, M = rMq n d z := ⟨_, rfl⟩
      obtain ⟨L, hL⟩ : ∃ L, L = rLq n d z := ⟨_, rfl⟩
      have hX2 : n * 2 ^ k1 = X := by rw [hX]; unfold rX; rw [er1]
      have hY2 : d * 2 ^ k2 = Y := by rw [hY]; unfold rY; rw [er2]
      have hXb : nd 256 X ≤ 4300 := by rw [← hX2]; have := mul_bytes n k1; have := HN.out; omega
      have hYb : nd 256 Y ≤ 4300 := by rw [← hY2]; have := mul_bytes d k2; have := HD.out; omega
      have hY0 : Y ≠ 0 := by rw [hY]; exact rY_pos HD0.out z
      have hMX : M = X / Y := by rw [hM, hX, hY]; rfl
      have hLX : L = X % Y := by rw [hL, hX, hY]; rfl
      have hMb : nd 256 M ≤ 4300 := by rw [hMX]; exact Nat.le_trans (ndB_mono (Nat.div_le_self _ _)) hXb
      have hLb : nd 256 L ≤ 4300 := by rw [hLX]; exact Nat.le_trans (ndB_mono (Nat.le_of_lt (Nat.mod_lt _ (Nat.pos_of_ne_zero hY0)))) hYb
      have KX : Hid (∀ w, Calls Tryz.prog 66 #[.string (natS n), .int .i64 (k1 : Nat)] w (StrPost (natS X) 0 w)) := Lib.hid fun w => by rw [← hX2]; exact rShift_to n k1 w (Nat.le_trans HN.out (by omega)) (by omega)
      have KY : Hid (∀ w, Calls Tryz.prog 66 #[.string (natS d), .int .i64 (k2 : Nat)] w (StrPost (natS Y) 0 w)) := Lib.hid fun w => by rw [← hY2]; exact rShift_to d k2 w (Nat.le_trans HD.out (by omega)) (by omega)
      have KD : Hid (∀ w, Calls Tryz.prog 93 #[.string (natS X), .string (natS Y)] w (Str2Post (natS M) (natS L) 0 w)) := Lib.hid fun w => by rw [hMX, hLX]; exact rDiv_c X Y w hY0 (by omega) (by omega)
      have KSm : Hid (∀ w, Calls Tryz.prog 147 #[.string (natS M)] w fun e w' => e = .returned (.tuple #[.int .u64 (brN M : Nat), .bool (brB M)]) ∧ w = w') := Lib.hid fun w => rSmall_c M w (by unfold fits; omega) (by rw [natS_size]; omega)
      have hw2 : IntKind.i64.wrap (-z) = -z := IntWalk.i64_in _ ⟨by omega, by omega⟩
      have hm1 : max 0 (-z) = (k1 : Int) := hk1.symm
      have hm2 : max 0 z = (k2 : Int) := hk2.symm
      have hw3 : IntKind.i64.wrap (z + 1) = z + 1 := IntWalk.i64_in _ ⟨by omega, by omega⟩
      by_cases c2 : z < rqZ n d
      · have hbig : 9007199254740992 ≤ M := by rw [hM]; exact rMq_big HN0.out HD0.out hz1 c2
        have HZ2 := Lib.hid (show z + 1 ≤ rqZ n d by omega)
        clear c2 HZ hk1 hk2 er1 er2 hX hY hM hL hX2 hY2 hXb hYb hY0 hMX hLX hMb hLb
        by_cases c3 : M < 18446744073709551616
        · have e1 := brN_yes (br_lt.2 c3)
          have e2 := brB_yes (br_lt.2 c3)
          rw [e1, e2] at KSm
          have hbI : (9007199254740992 : Int) ≤ (M : Int) := by omega
          have hbJ : ¬ (M : Int) < 9007199254740992 := by omega
          clear e1 e2 hbig c3
          go_wp2_with (first
            | (go_at_call 66; (with_reducible refine (KX.out _).mono ?_); rintro ee wa ⟨rfl, hb⟩; replace HB := Lib.hid (below_chain HB.out hb); clear hb)
            | (go_at_call 66; (with_reducible refine (KY.out _).mono ?_); rintro ee wb ⟨rfl, hb⟩; replace HB := Lib.hid (below_chain HB.out hb); clear hb)
            | (go_at_call 93; (with_reducible refine (KD.out _).mono ?_); rintro ee wc ⟨rfl, hb⟩; replace HB := Lib.hid (below_chain HB.out hb); clear hb)
            | (go_at_call 147; (with_reducible refine (KSm.out _).mono ?_); rintro ee wd ⟨rfl, rfl⟩))
          go_round
          case rel => exact ⟨z + 1, rfl, by omega, by omega, HZ2, HB⟩
          case measure => simp [intOf]; omega
        · have e1 := brN_no (fun c => c3 (br_lt.1 c))
          have e2 := brB_no (fun c => c3 (br_lt.1 c))
          rw [e1, e2] at KSm
          clear e1 e2 hbig c3
          go_wp2_with (first
            | (go_at_call 66; (with_reducible refine (KX.out _).mono ?_); rintro ee wa ⟨rfl, hb⟩; replace HB := Lib.hid (below_chain HB.out hb); clear hb)
            | (go_at_call 66; (with_reducible refine (KY.out _).mono ?_); rintro ee wb ⟨rfl, hb⟩; replace HB := Lib.hid (below_chain HB.out hb); clear hb)
            | (go_at_call 93; (with_reducible refine (KD.out _).mono ?_); rintro ee wc ⟨rfl, hb⟩; replace HB := Lib.hid (below_chain HB.out hb); clear hb)
            | (go_at_call 147; (with_reducible refine (KSm.out _).mono ?_); rintro ee wd ⟨rfl, rfl⟩))
          go_round
          case rel => exact ⟨z + 1, rfl, by omega, by omega, HZ2, HB⟩
          case measure => simp [intOf]; omega
      · have hz : z = rqZ n d := by have := HZ.out; omega
        have hT : tpZ n d ≤ 1023 := by unfold rqZ at hz; omega
        obtain ⟨a1, a2, a3⟩ := a_mid hT
        have hMs : M < 9007199254740992 := by rw [hM, hz]; exact rMq_lt HN0.out HD0.out
        have hMn : 4503599627370496 ≤ M ∨ z = -1074 := by rw [hM, hz]; exact rMq_norm HN0.out HD0.out
        rw [← hz, ← hM] at a1
        rw [← hz] at a2
        rw [← hz, ← hL, ← hY] at a3
        have HA : Hid (ARes n d = .tuple #[.float .f64 (pk M z), .float .f64 (pk (M + 1) z), .int .i64 (rsW L Y - 2), .bool (decide (M % 2 = 0))]) := Lib.hid (by unfold ARes aE; rw [a1, a2, a3])
        have e1 := brN_yes (br_lt.2 (show M < 18446744073709551616 by omega))
        have e2 := brB_yes (br_lt.2 (show M < 18446744073709551616 by omega))
        rw [e1, e2] at KSm
        have hbI : decide ((9007199254740992 : Int) ≤ (M : Int)) = false := decide_eq_false (by omega)
        have hbJ : decide ((M : Int) < 9007199254740992) = true := decide_eq_true (by omega)
        have KM1 : Hid (∀ w, Calls Tryz.prog 148 #[.bool false, .int .u64 (M : Nat), .int .i64 z] w fun r w' => r = .returned (.tuple #[.float .f64 (pk M z), .bool true]) ∧ w = w') := Lib.hid fun w => rMk_ok M z w (by omega) hz1 (by omega) hMn (by omega)
        have hev : ((M : Int) % 2 == 0) = decide (M % 2 = 0) := by
          rcases Nat.mod_two_eq_zero_or_one M with h | h
          · rw [h, beq_iff_eq.2 (by omega)]; rfl
          · rw [h, beq_eq_false_iff_ne.2 (by omega)]; rfl
        have hev2 : ((M : Int).tmod 2 == 0) = decide (M % 2 = 0) := by rw [Int.tmod_eq_emod_of_nonneg (by omega)]; exact hev
        obtain ⟨M1, hM1⟩ : ∃ M1, M1 = M + 1 := ⟨_, rfl⟩
        rw [← hM1] at HA
        have hw4 : IntKind.u64.wrap ((M : Int) + 1) = (M1 : Int) := by rw [IntWalk.u64_in _ ⟨by omega, by omega⟩]; omega
        have KM2 : Hid (∃ (v : Nat) (b : Bool), (∀ w, Calls Tryz.prog 148 #[.bool false, .int .u64 (M1 : Int), .int .i64 z] w fun r w' => r = .returned (.tuple #[.float .f64 v, .bool b]) ∧ w = w') ∧ (b = true ∧ v = pk M1 z ∨ b = false ∧ pk M1 z = 9218868437227405312)) := Lib.hid (by
          rw [hM1]
          by_cases c4 : M + 1 = 9007199254740992 ∧ z = 971
          · refine ⟨0, false, fun w => ?_, Or.inr ⟨rfl, ?_⟩⟩
            · rw [c4.1, c4.2]; exact rMk_no w
            · rw [c4.1, c4.2]; exact pk_inf
          · exact ⟨_, true, fun w => rMk_ok (M + 1) z w (by omega) hz1 (by omega) (by omega) c4, Or.inl ⟨rfl, rfl⟩⟩)
        have KSh : Hid (∀ w, Calls Tryz.prog 66 #[.string (natS L), .int .i64 1] w (StrPost (natS (L * 2)) 0 w)) := Lib.hid fun w => by
          have h := rShift_to L 1 w (by omega) (by omega)
          rwa [Nat.pow_one] at h
        have KC : Hid (∀ w, Calls Tryz.prog 84 #[.string (natS (L * 2)), .string (natS Y)] w fun e w' => e = .returned (.int .i64 (cmpN (L * 2) Y)) ∧ Drawn w w') := Lib.hid fun w => rCmp_c (L * 2) Y w (by unfold fits; have := mul_bytes L 1; rw [Nat.pow_one] at this; omega) (by unfold fits; omega)
        have hL0 : L = 0 ∨ L ≠ 0 := by omega
        have HEV := Lib.hid hev
        have HEV2 := Lib.hid hev2
        have HW4 := Lib.hid hw4
        clear hev hev2 hw4 hM1 hMs hz hT a1 a2 a3 e1 e2 hMn hk1 hk2 er1 er2 hX hY hM hL hX2 hY2 hXb hYb hY0 hMX hLX hMb hLb HZ c2
        obtain ⟨vv, bb, KM2a, hbb⟩ := KM2.out
        have KM3 := Lib.hid KM2a
        clear KM2a KM2
        rcases hL0 with hL0 | hL0
        · have el1 := natS_empty hL0
          have HR : Hid (rsW L Y - 2 = -2) := Lib.hid (by rw [hL0, rsW_0]; rfl)
          clear hL0 KSh KC
          rcases hbb with ⟨rfl, rfl⟩ | ⟨rfl, hinf⟩
          · generalize decide (M % 2 = 0) = ev at *
            go_upto_region 12 with (first
              | (go_at_call 66; (with_reducible refine (KX.out _).mono ?_); rintro ee wa ⟨rfl, hb⟩; replace HB := Lib.hid (below_chain HB.out hb); clear hb)
              | (go_at_call 66; (with_reducible refine (KY.out _).mono ?_); rintro ee wb ⟨rfl, hb⟩; replace HB := Lib.hid (below_chain HB.out hb); clear hb)
              | (go_at_call 66; (with_reducible refine (KSh.out _).mono ?_); rintro ee wb ⟨rfl, hb⟩; replace HB := Lib.hid (below_chain HB.out hb); clear hb)
              | (go_at_call 93; (with_reducible refine (KD.out _).mono ?_); rintro ee wc ⟨rfl, hb⟩; replace HB := Lib.hid (below_chain HB.out hb); clear hb)
              | (go_at_call 147; (with_reducible refine (KSm.out _).mono ?_); rintro ee wd ⟨rfl, rfl⟩)
              | (go_at_call 148; (with_reducible refine (KM1.out _).mono ?_); rintro ee wd ⟨rfl, rfl⟩)
              | (go_at_call 148; (with_reducible refine (KM3.out _).mono ?_); rintro ee wd ⟨rfl, rfl⟩)
              | (go_at_call 146; (with_reducible refine (Inf_14 _).mono ?_); rintro ee wx ⟨rfl, rfl⟩)
              | (go_at_call 84; (with_reducible refine (KC.out _).mono ?_); rintro ee we ⟨rfl, nn, rfl⟩))
            have hw4 := HW4.out
            have hev := HEV.out
            have hev2 := HEV2.out
            go_wp2_with (first
              | (go_at_call 66; (with_reducible refine (KX.out _).mono ?_); rintro ee wa ⟨rfl, hb⟩; replace HB := Lib.hid (below_chain HB.out hb); clear hb)
              | (go_at_call 66; (with_reducible refine (KY.out _).mono ?_); rintro ee wb ⟨rfl, hb⟩; replace HB := Lib.hid (below_chain HB.out hb); clear hb)
              | (go_at_call 66; (with_reducible refine (KSh.out _).mono ?_); rintro ee wb ⟨rfl, hb⟩; replace HB := Lib.hid (below_chain HB.out hb); clear hb)
              | (go_at_call 93; (with_reducible refine (KD.out _).mono ?_); rintro ee wc ⟨rfl, hb⟩; replace HB := Lib.hid (below_chain HB.out hb); clear hb)
              | (go_at_call 147; (with_reducible refine (KSm.out _).mono ?_); rintro ee wd ⟨rfl, rfl⟩)
              | (go_at_call 148; (with_reducible refine (KM1.out _).mono ?_); rintro ee wd ⟨rfl, rfl⟩)
              | (go_at_call 148; (with_reducible refine (KM3.out _).mono ?_); rintro ee wd ⟨rfl, rfl⟩)
              | (go_at_call 146; (with_reducible refine (Inf_14 _).mono ?_); rintro ee wx ⟨rfl, rfl⟩)
              | (go_at_call 84; (with_reducible refine (KC.out _).mono ?_); rintro ee we ⟨rfl, nn, rfl⟩))
            refine bodyPost_ret (v := .tuple #[.float .f64 (pk M z), .float .f64 (pk M1 z), .int .i64 (-2), .bool ev]) (by simp [results, Tryz.results94, go_sem]) rfl ⟨by rw [HA.out, HR.out], HB.out⟩
          · have HI := Lib.hid hinf
            clear hinf
            generalize decide (M % 2 = 0) = ev at *
            go_upto_region 12 with (first
              | (go_at_call 66; (with_reducible refine (KX.out _).mono ?_); rintro ee wa ⟨rfl, hb⟩; replace HB := Lib.hid (below_chain HB.out hb); clear hb)
              | (go_at_call 66; (with_reducible refine (KY.out _).mono ?_); rintro ee wb ⟨rfl, hb⟩; replace HB := Lib.hid (below_chain HB.out hb); clear hb)
              | (go_at_call 66; (with_reducible refine (KSh.out _).mono ?_); rintro ee wb ⟨rfl, hb⟩; replace HB := Lib.hid (below_chain HB.out hb); clear hb)
              | (go_at_call 93; (with_reducible refine (KD.out _).mono ?_); rintro ee wc ⟨rfl, hb⟩; replace HB := Lib.hid (below_chain HB.out hb); clear hb)
              | (go_at_call 147; (with_reducible refine (KSm.out _).mono ?_); rintro ee wd ⟨rfl, rfl⟩)
              | (go_at_call 148; (with_reducible refine (KM1.out _).mono ?_); rintro ee wd ⟨rfl, rfl⟩)
              | (go_at_call 148; (with_reducible refine (KM3.out _).mono ?_); rintro ee wd ⟨rfl, rfl⟩)
              | (go_at_call 146; (with_reducible refine (Inf_14 _).mono ?_); rintro ee wx ⟨rfl, rfl⟩)
              | (go_at_call 84; (with_reducible refine (KC.out _).mono ?_); rintro ee we ⟨rfl, nn, rfl⟩))
            have hw4 := HW4.out
            have hev := HEV.out
            have hev2 := HEV2.out
            go_wp2_with (first
              | (go_at_call 66; (with_reducible refine (KX.out _).mono ?_); rintro ee wa ⟨rfl, hb⟩; replace HB := Lib.hid (below_chain HB.out hb); clear hb)
              | (go_at_call 66; (with_reducible refine (KY.out _).mono ?_); rintro ee wb ⟨rfl, hb⟩; replace HB := Lib.hid (below_chain HB.out hb); clear hb)
              | (go_at_call 66; (with_reducible refine (KSh.out _).mono ?_); rintro ee wb ⟨rfl, hb⟩; replace HB := Lib.hid (below_chain HB.out hb); clear hb)
              | (go_at_call 93; (with_reducible refine (KD.out _).mono ?_); rintro ee wc ⟨rfl, hb⟩; replace HB := Lib.hid (below_chain HB.out hb); clear hb)
              | (go_at_call 147; (with_reducible refine (KSm.out _).mono ?_); rintro ee wd ⟨rfl, rfl⟩)
              | (go_at_call 148; (with_reducible refine (KM1.out _).mono ?_); rintro ee wd ⟨rfl, rfl⟩)
              | (go_at_call 148; (with_reducible refine (KM3.out _).mono ?_); rintro ee wd ⟨rfl, rfl⟩)
              | (go_at_call 146; (with_reducible refine (Inf_14 _).mono ?_); rintro ee wx ⟨rfl, rfl⟩)
              | (go_at_call 84; (with_reducible refine (KC.out _).mono ?_); rintro ee we ⟨rfl, nn, rfl⟩))
            refine bodyPost_ret (v := .tuple #[.float .f64 (pk M z), .float .f64 9218868437227405312, .int .i64 (-2), .bool ev]) (by simp [results, Tryz.results94, go_sem]) rfl ⟨by rw [HA.out, HR.out, HI.out], HB.out⟩
        · have el1 := natS_full hL0
          have el2 := natS_full2 hL0
          have HR : Hid (rsW L Y - 2 = cmpN (L * 2) Y) := Lib.hid (by rw [rsW_n hL0]; omega)
          clear hL0
          rcases hbb with ⟨rfl, rfl⟩ | ⟨rfl, hinf⟩
          · generalize decide (M % 2 = 0) = ev at *
            go_upto_region 12 with (first
              | (go_at_call 66; (with_reducible refine (KX.out _).mono ?_); rintro ee wa ⟨rfl, hb⟩; replace HB := Lib.hid (below_chain HB.out hb); clear hb)
              | (go_at_call 66; (with_reducible refine (KY.out _).mono ?_); rintro ee wb ⟨rfl, hb⟩; replace HB := Lib.hid (below_chain HB.out hb); clear hb)
              | (go_at_call 66; (with_reducible refine (KSh.out _).mono ?_); rintro ee wb ⟨rfl, hb⟩; replace HB := Lib.hid (below_chain HB.out hb); clear hb)
              | (go_at_call 93; (with_reducible refine (KD.out _).mono ?_); rintro ee wc ⟨rfl, hb⟩; replace HB := Lib.hid (below_chain HB.out hb); clear hb)
              | (go_at_call 147; (with_reducible refine (KSm.out _).mono ?_); rintro ee wd ⟨rfl, rfl⟩)
              | (go_at_call 148; (with_reducible refine (KM1.out _).mono ?_); rintro ee wd ⟨rfl, rfl⟩)
              | (go_at_call 148; (with_reducible refine (KM3.out _).mono ?_); rintro ee wd ⟨rfl, rfl⟩)
              | (go_at_call 146; (with_reducible refine (Inf_14 _).mono ?_); rintro ee wx ⟨rfl, rfl⟩)
              | (go_at_call 84; (with_reducible refine (KC.out _).mono ?_); rintro ee we ⟨rfl, nn, rfl⟩))
            have hw4 := HW4.out
            have hev := HEV.out
            have hev2 := HEV2.out
            go_wp2_with (first
              | (go_at_call 66; (with_reducible refine (KX.out _).mono ?_); rintro ee wa ⟨rfl, hb⟩; replace HB := Lib.hid (below_chain HB.out hb); clear hb)
              | (go_at_call 66; (with_reducible refine (KY.out _).mono ?_); rintro ee wb ⟨rfl, hb⟩; replace HB := Lib.hid (below_chain HB.out hb); clear hb)
              | (go_at_call 66; (with_reducible refine (KSh.out _).mono ?_); rintro ee wb ⟨rfl, hb⟩; replace HB := Lib.hid (below_chain HB.out hb); clear hb)
              | (go_at_call 93; (with_reducible refine (KD.out _).mono ?_); rintro ee wc ⟨rfl, hb⟩; replace HB := Lib.hid (below_chain HB.out hb); clear hb)
              | (go_at_call 147; (with_reducible refine (KSm.out _).mono ?_); rintro ee wd ⟨rfl, rfl⟩)
              | (go_at_call 148; (with_reducible refine (KM1.out _).mono ?_); rintro ee wd ⟨rfl, rfl⟩)
              | (go_at_call 148; (with_reducible refine (KM3.out _).mono ?_); rintro ee wd ⟨rfl, rfl⟩)
              | (go_at_call 146; (with_reducible refine (Inf_14 _).mono ?_); rintro ee wx ⟨rfl, rfl⟩)
              | (go_at_call 84; (with_reducible refine (KC.out _).mono ?_); rintro ee we ⟨rfl, nn, rfl⟩))
            refine bodyPost_ret (v := .tuple #[.float .f64 (pk M z), .float .f64 (pk M1 z), .int .i64 (cmpN (L * 2) Y), .bool ev]) (by simp [results, Tryz.results94, go_sem]) rfl ⟨by rw [HA.out, HR.out], below_drewN HB.out nn⟩
          · have HI := Lib.hid hinf
            clear hinf
            generalize decide (M % 2 = 0) = ev at *
            go_upto_region 12 with (first
              | (go_at_call 66; (with_reducible refine (KX.out _).mono ?_); rintro ee wa ⟨rfl, hb⟩; replace HB := Lib.hid (below_chain HB.out hb); clear hb)
              | (go_at_call 66; (with_reducible refine (KY.out _).mono ?_); rintro ee wb ⟨rfl, hb⟩; replace HB := Lib.hid (below_chain HB.out hb); clear hb)
              | (go_at_call 66; (with_reducible refine (KSh.out _).mono ?_); rintro ee wb ⟨rfl, hb⟩; replace HB := Lib.hid (below_chain HB.out hb); clear hb)
              | (go_at_call 93; (with_reducible refine (KD.out _).mono ?_); rintro ee wc ⟨rfl, hb⟩; replace HB := Lib.hid (below_chain HB.out hb); clear hb)
              | (go_at_call 147; (with_reducible refine (KSm.out _).mono ?_); rintro ee wd ⟨rfl, rfl⟩)
              | (go_at_call 148; (with_reducible refine (KM1.out _).mono ?_); rintro ee wd ⟨rfl, rfl⟩)
              | (go_at_call 148; (with_reducible refine (KM3.out _).mono ?_); rintro ee wd ⟨rfl, rfl⟩)
              | (go_at_call 146; (with_reducible refine (Inf_14 _).mono ?_); rintro ee wx ⟨rfl, rfl⟩)
              | (go_at_call 84; (with_reducible refine (KC.out _).mono ?_); rintro ee we ⟨rfl, nn, rfl⟩))
            have hw4 := HW4.out
            have hev := HEV.out
            have hev2 := HEV2.out
            go_wp2_with (first
              | (go_at_call 66; (with_reducible refine (KX.out _).mono ?_); rintro ee wa ⟨rfl, hb⟩; replace HB := Lib.hid (below_chain HB.out hb); clear hb)
              | (go_at_call 66; (with_reducible refine (KY.out _).mono ?_); rintro ee wb ⟨rfl, hb⟩; replace HB := Lib.hid (below_chain HB.out hb); clear hb)
              | (go_at_call 66; (with_reducible refine (KSh.out _).mono ?_); rintro ee wb ⟨rfl, hb⟩; replace HB := Lib.hid (below_chain HB.out hb); clear hb)
              | (go_at_call 93; (with_reducible refine (KD.out _).mono ?_); rintro ee wc ⟨rfl, hb⟩; replace HB := Lib.hid (below_chain HB.out hb); clear hb)
              | (go_at_call 147; (with_reducible refine (KSm.out _).mono ?_); rintro ee wd ⟨rfl, rfl⟩)
              | (go_at_call 148; (with_reducible refine (KM1.out _).mono ?_); rintro ee wd ⟨rfl, rfl⟩)
              | (go_at_call 148; (with_reducible refine (KM3.out _).mono ?_); rintro ee wd ⟨rfl, rfl⟩)
              | (go_at_call 146; (with_reducible refine (Inf_14 _).mono ?_); rintro ee wx ⟨rfl, rfl⟩)
              | (go_at_call 84; (with_reducible refine (KC.out _).mono ?_); rintro ee we ⟨rfl, nn, rfl⟩))
            refine bodyPost_ret (v := .tuple #[.float .f64 (pk M z), .float .f64 9218868437227405312, .int .i64 (cmpN (L * 2) Y), .bool ev]) (by simp [results, Tryz.results94, go_sem]) rfl ⟨by rw [HA.out, HR.out, HI.out], below_drewN HB.out nn⟩
end Go.Proofs.YtajcapliokblfaaGreatDoor
namespace Go.Proofs.YtajcapliokblfaaGreatDoor
open Go Go.RowKit Nt
theorem rCopysign_c (x : Nat) (hx : x < 9223372036854775808) (w : World) :
    Calls Tryz.prog 107 #[.float .f64 x, .float .f64 13830554455654793216] w fun e w' => e = .returned (.float .f64 (Bt.wf true x)) ∧ w = w' := by
  have h12 := Bt.ext_from
  have h44 := Bt.ext_bits
  have hr : Bt.Ff.rung x = x := by unfold Bt.Ff.rung; omega
  have ha := Bt.and_not_top x (by omega)
  rw [hr] at ha
  have ho2 : bits BinOp.and IntKind.u64 (13830554455654793216 : Int) 9223372036854775808 = 9223372036854775808 := by decide +kernel
  have ho : bits BinOp.or IntKind.u64 (x : Int) 9223372036854775808 = ((Bt.topped x : Nat) : Int) := by
    rw [Bt.topped_eq, show (9223372036854775808 : Int) = ((9223372036854775808 : Nat) : Int) from rfl, u64_or_nat x _ (by omega) (by decide), Nat.or_comm]
    congr 1
    exact nat_join 63 _ _ (by decide) hx
  go_enter Tryz.func107, Tryz.ntmps107
  go_wp2
  go_ret
  exact ⟨by rw [Bt.wf_eq]; rfl, rfl⟩
theorem rSgn4_c (g : Bool) (x : Nat) (hx : x < 9223372036854775808) (w : World) :
    Calls Tryz.prog 95 #[.bool g, .float .f64 x] w fun e w' => e = .returned (.float .f64 (Bt.wf g x)) ∧ w = w' := by
  have K := Lib.hid fun w => rCopysign_c x hx w
  clear hx
  cases g
  · go_enter Tryz.func95, Tryz.ntmps95
    go_wp2_with fail
    go_ret
    exact ⟨by rw [Bt.wf_eq]; rfl, rfl⟩
  · go_enter Tryz.func95, Tryz.ntmps95
    go_wp2_with (first | (go_at_call 107; (with_reducible refine (K.out _).mono ?_); rintro ee wx ⟨rfl, rfl⟩))
    go_ret
    exact ⟨rfl, rfl⟩
theorem aM_b {n d : Nat} (h0 : n ≠ 0) (hd0 : d ≠ 0) : aM n d < 9007199254740992 ∧ aQ n d ≤ 971 := by
  by_cases h : 1023 < tpZ n d
  · obtain ⟨e1, e2, e3⟩ := a_hi h
    rw [e1, e2]; omega
  · have h2 : tpZ n d ≤ 1023 := by omega
    obtain ⟨e1, e2, e3⟩ := a_mid h2
    rw [e1, e2]
    exact ⟨rMq_lt h0 hd0, (rqZ_b n d h2).2⟩
theorem aR_c (n d : Nat) : aR n d = 0 ∨ aR n d = 1 ∨ aR n d = 2 ∨ aR n d = 3 := by
  refine r_cases ?_
  by_cases h : 1023 < tpZ n d
  · rw [(a_hi h).2.2]; omega
  · rw [(a_mid (show tpZ n d ≤ 1023 by omega)).2.2]; exact rsW_b _ _
theorem aE_at (n d : Nat) : (aE n d = true ∧ ¬ aM n d % 2 = 1) ∨ (aE n d = false ∧ aM n d % 2 = 1) := by
  unfold aE
  rcases Nat.mod_two_eq_zero_or_one (aM n d) with h | h
  · exact Or.inl ⟨decide_eq_true h, by omega⟩
  · exact Or.inr ⟨decide_eq_false (by omega), h⟩
set_option maxRecDepth 100000 in
set_option maxHeartbeats 1000000 in
theorem rFloat4_n (g : Bool) (n d : Nat) (w : World) (h0 : n ≠ 0) (hd0 : d ≠ 0) (h1 : nd 256 n ≤ 4000) (h2 : nd 256 d ≤ 4000) :
    Calls Tryz.prog 40 #[.agg #[.bool g, .string (natS n), .string (natS d)]] w fun e w' => e = .returned (.float .f64 (RW 0 g n d)) ∧ Below w.heap.size w w' := by
  have T0 := BL.start1 w (.bool g) (.string (natS n)) (.string (natS d)) 24
  obtain ⟨p0, p1, p2, p3, p4, p5, p6⟩ := T0.box0
  have e1 := natS_full h0
  have e2 := natS_full2 h0
  have KA := Lib.hid fun w => rAround4_c g n d w h0 hd0 h1 h2
  obtain ⟨m1, m2⟩ := aM_b h0 hd0
  have KS1 := Lib.hid fun w => rSgn4_c g (pk (aM n d) (aQ n d)) (by have := pk_lt (m := aM n d) (by omega) m2; omega) w
  have KS2 := Lib.hid fun w => rSgn4_c g (pk (aM n d + 1) (aQ n d)) (by have := pk_lt (m := aM n d + 1) (by omega) m2; omega) w
  have HE := aE_at n d
  have HC := aR_c n d
  have HR := Lib.hid (RW_a 0 g n d)
  unfold ARes at KA
  unfold mUp upW at HR
  clear m1 m2 h0 hd0 h1 h2
  generalize aM n d = M at *
  generalize aQ n d = Q at *
  generalize aR n d = R at *
  generalize aE n d = E at *
  generalize RW 0 g n d = Z at *
  have HWF := Lib.hid wf_false
  rcases HC with rfl | rfl | rfl | rfl <;> rcases HE with ⟨rfl, he⟩ | ⟨rfl, he⟩ <;> cases g
  all_goals
    simp [he] at HR
    clear he
    go_enter Tryz.func40, Tryz.ntmps40
    go_wp2_with (first
      | (go_at_call 94; (with_reducible refine (KA.out _).mono ?_); rintro ee wx ⟨rfl, hb⟩; replace T0 := T0.step hb; clear p0 p1 p2 p3 p4 p5 p6; obtain ⟨p0, p1, p2, p3, p4, p5, p6⟩ := T0.box0; clear hb)
      | (go_at_call 95; (with_reducible refine (KS1.out _).mono ?_); rintro ee wx ⟨rfl, rfl⟩)
      | (go_at_call 95; (with_reducible refine (KS2.out _).mono ?_); rintro ee wx ⟨rfl, rfl⟩))
    go_ret
    exact ⟨by rw [HR.out]; first | rfl | (rw [wf_false]; rfl), T0.1⟩
set_option maxRecDepth 100000 in
theorem rFloat4_c (q : Rat) (w : World) (hq : Bq q 4000) :
    Calls Tryz.prog 40 #[qv q] w fun e w' => e = .returned (.float .f64 (QW 0 q)) ∧ Below w.heap.size w w' := by
  by_cases h0 : qN q = 0
  · have e : QW 0 q = 0 := by unfold QW; exact if_pos h0
    rw [e]
    unfold qv
    rw [h0]
    generalize qG q = g
    generalize qD q = d
    have T0 := BL.start1 w (.bool g) (.string (natS 0)) (.string (natS d)) 24
    obtain ⟨p0, p1, p2, p3, p4, p5, p6⟩ := T0.box0
    have e1 : (natS 0).toList = [] := natS_empty rfl
    go_enter Tryz.func40, Tryz.ntmps40
    go_wp2_with fail
    go_ret
    exact ⟨rfl, T0.1⟩
  · have e : QW 0 q = RW 0 (qG q) (qN q) (qD q) := by unfold QW; exact if_neg h0
    rw [e]
    exact rFloat4_n _ _ _ w h0 (qD_pos q) hq.1 hq.2
end Go.Proofs.YtajcapliokblfaaGreatDoor
namespace Go.Proofs.YtajcapliokblfaaGreatDoor.Bt
open Go Go.RowKit Ff
@[irreducible] def place (x : Nat) : Nat := if isn x then 18437736874454810626 else if sgn x then 9218868437227405312 - rung x else 9218868437227405313 + rung x
end Go.Proofs.YtajcapliokblfaaGreatDoor.Bt
namespace Go.Proofs.YtajcapliokblfaaGreatDoor.Bt
open Go Go.RowKit Ff
@[irreducible] def fltB (x y : Nat) : Bool := decide (¬ isn x ∧ ¬ isn y ∧ srung x < srung y)
@[irreducible] def feqB (x y : Nat) : Bool := decide (¬ isn x ∧ ¬ isn y ∧ srung x = srung y)
theorem ord_cmp (x y : Nat) : FloatKind.f64.format.order x y = if isn x ∨ isn y then none else some (compare (srung x) (srung y)) := order_eq x y
theorem cmp_lt (a b : Int) : compare a b = Ordering.lt ↔ a < b := by
  simp only [compare, compareOfLessAndEq]; by_cases h : a < b <;> by_cases h' : a = b <;> simp [h, h']
theorem cmp_eq (a b : Int) : compare a b = Ordering.eq ↔ a = b := by
  simp only [compare, compareOfLessAndEq]; by_cases h : a < b <;> by_cases h' : a = b <;> simp [h, h'] <;> omega
theorem cmp_gt (a b : Int) : compare a b = Ordering.gt ↔ b < a := by
  simp only [compare, compareOfLessAndEq]; by_cases h : a < b <;> by_cases h' : a = b <;> simp [h, h'] <;> omega
theorem some_beq (o p : Ordering) : (some o == some p) = decide (o = p) := by cases o <;> cases p <;> rfl
@[local go_sem] theorem f_lt (x y : Nat) : (FloatKind.f64.format.order x y == some Ordering.lt) = fltB x y := by
  rw [ord_cmp]; unfold fltB
  by_cases h : isn x ∨ isn y
  · rw [if_pos h]; symm; rw [show (none == some Ordering.lt) = false from rfl, decide_eq_false_iff_not]; rintro ⟨h1, h2, _⟩; exact h.elim h1 h2
  · rw [if_neg h, some_beq, Bool.eq_iff_iff, decide_eq_true_iff, decide_eq_true_iff, cmp_lt]
    exact ⟨fun c => ⟨fun a => h (Or.inl a), fun a => h (Or.inr a), c⟩, fun c => c.2.2⟩
@[local go_sem] theorem f_gt (x y : Nat) : (FloatKind.f64.format.order x y == some Ordering.gt) = fltB y x := by
  rw [ord_cmp]; unfold fltB
  by_cases h : isn x ∨ isn y
  · rw [if_pos h]; symm; rw [show (none == some Ordering.gt) = false from rfl, decide_eq_false_iff_not]; rintro ⟨h1, h2, _⟩; exact h.elim h2 h1
  · rw [if_neg h, some_beq, Bool.eq_iff_iff, decide_eq_true_iff, decide_eq_true_iff, cmp_gt]
    exact ⟨fun c => ⟨fun a => h (Or.inr a), fun a => h (Or.inl a), c⟩, fun c => c.2.2⟩
@[local go_sem] theorem f_eq (x y : Nat) : (FloatKind.f64.format.order x y == some Ordering.eq) = feqB x y := by
  rw [ord_cmp]; unfold feqB
  by_cases h : isn x ∨ isn y
  · rw [if_pos h]; symm; rw [show (none == some Ordering.eq) = false from rfl, decide_eq_false_iff_not]; rintro ⟨h1, h2, _⟩; exact h.elim h1 h2
  · rw [if_neg h, some_beq, Bool.eq_iff_iff, decide_eq_true_iff, decide_eq_true_iff, cmp_eq]
    exact ⟨fun c => ⟨fun a => h (Or.inl a), fun a => h (Or.inr a), c⟩, fun c => c.2.2⟩
@[local go_sem] theorem f_ne (x y : Nat) : (FloatKind.f64.format.order x y != some Ordering.eq) = !feqB x y := by
  rw [bne, f_eq]
end Go.Proofs.YtajcapliokblfaaGreatDoor.Bt
namespace Go.Proofs.YtajcapliokblfaaGreatDoor.Bt
open Go Go.RowKit Ff
attribute [local go_sem] f_lt f_gt f_eq f_ne
@[irreducible] def atB (p : Nat) : Bool := decide (p ≤ 18437736874454810626)
@[irreducible] def bigP (p : Nat) : Bool := decide (18437736874454810626 < p)
@[irreducible] def nanP (p : Nat) : Bool := decide (p = 18437736874454810626)
@[irreducible] def lowP (p : Nat) : Bool := decide (p < 9218868437227405313)
theorem bigP_iff (p : Nat) : bigP p = true ↔ 18437736874454810626 < p := by unfold bigP; exact decide_eq_true_iff
theorem nanP_iff (p : Nat) : nanP p = true ↔ p = 18437736874454810626 := by unfold nanP; exact decide_eq_true_iff
theorem lowP_iff (p : Nat) : lowP p = true ↔ p < 9218868437227405313 := by unfold lowP; exact decide_eq_true_iff
@[local go_sem] theorem big_p1 (p : Nat) : decide ((18437736874454810626 : Int) < (p : Int)) = bigP p := by
  rw [Bool.eq_iff_iff, decide_eq_true_iff, bigP_iff]; omega
@[local go_sem] theorem big_p2 (p : Nat) : decide ((18437736874454810627 : Int) ≤ (p : Int)) = bigP p := by
  rw [Bool.eq_iff_iff, decide_eq_true_iff, bigP_iff]; omega
@[local go_sem] theorem nan_p (p : Nat) : ((p : Int) == 18437736874454810626) = nanP p := by
  rw [Bool.eq_iff_iff, beq_iff_eq, nanP_iff]; omega
@[local go_sem] theorem low_p1 (p : Nat) : decide ((p : Int) < 9218868437227405313) = lowP p := by
  rw [Bool.eq_iff_iff, decide_eq_true_iff, lowP_iff]; omega
@[local go_sem] theorem low_p2 (p : Nat) : decide ((p : Int) ≤ 9218868437227405312) = lowP p := by
  rw [Bool.eq_iff_iff, decide_eq_true_iff, lowP_iff]; omega
end Go.Proofs.YtajcapliokblfaaGreatDoor.Bt
namespace Go.Proofs.YtajcapliokblfaaGreatDoor.Bt
open Go Go.RowKit Ff
attribute [local go_sem] f_lt f_gt f_eq f_ne
@[irreducible] def infW (x : Nat) : Bool := decide (x = 9218868437227405312)
theorem infW_iff (x : Nat) : infW x = true ↔ x = 9218868437227405312 := by unfold infW; exact decide_eq_true_iff
@[local go_sem] theorem inf_w (x : Nat) : ((x : Int) == 9218868437227405312) = infW x := by
  rw [Bool.eq_iff_iff, beq_iff_eq, infW_iff]; omega
@[irreducible] def upF (x : Nat) : Nat := if isn x then x else if x = 9218868437227405312 then x else if rung x = 0 then 1 else if sgn x then x - 1 else x + 1
end Go.Proofs.YtajcapliokblfaaGreatDoor.Bt
namespace Go.Proofs.YtajcapliokblfaaGreatDoor
open Go Go.RowKit Nt
theorem mkR_lt {D : Nat} (hD : D ≠ 0) (i j : Int) : mkRat i D < mkRat j D ↔ i < j := by
  have h0 : (0 : Rat) < (D : Rat) := Rat.natCast_pos.2 (Nat.pos_of_ne_zero hD)
  have h1 : (D : Rat) ≠ 0 := fun c => by rw [c] at h0; exact absurd h0 (by decide)
  rw [Rat.mkRat_eq_div, Rat.mkRat_eq_div, Rat.div_lt_iff h0, Rat.div_mul_cancel h1, Rat.intCast_lt_intCast]
theorem mkR_sub {D : Nat} (hD : D ≠ 0) (i j : Int) : mkRat i D - mkRat j D = mkRat (i - j) D := by
  rw [Rat.sub_eq_add_neg, Rat.neg_mkRat, Rat.mkRat_add_mkRat _ _ hD hD, ← Int.add_mul, Rat.mkRat_mul_right hD, Int.sub_eq_add_neg]
def dyQ (g : Bool) (m : Nat) (e : Int) : Rat := fr g (m * 2 ^ rk2 e) (2 ^ rk1 e)
@[irreducible] noncomputable def wQ (x : Nat) : Rat := dyQ (Bt.Ff.sgn x) (Bt.pm x) (Bt.pex x)
end Go.Proofs.YtajcapliokblfaaGreatDoor
namespace Go.Proofs.YtajcapliokblfaaGreatDoor
open Go Go.RowKit Nt
structure Nr (a : Rat) (n b c : Nat) : Prop where
  lb : b < 18446744073709551616
  lc : c < 18446744073709551616
  ln : n < 18446744073709551616
  nb : ¬ Bt.Ff.isn b
  nc : ¬ Bt.Ff.isn c
  nn : ¬ Bt.Ff.isn n
  ne : Bt.feqB b c = false
  gt : Bt.fltB c b = false
  up : Bt.upF b = c
  or : Bt.feqB n b = true ∧ n = b ∨ Bt.feqB n b = false ∧ n = c
  fb : Bt.finB b = true → wQ b < a
  fc : Bt.finB c = true → a < wQ c
  nul : Bt.finB b = true → Bt.finB c = true → qC (a - wQ b) (wQ c - a) = 0 → n % 2 = 0
  neg : Bt.finB b = true → Bt.finB c = true → qC (a - wQ b) (wQ c - a) ≠ 0 → (Bt.feqB n b = true ↔ qC (a - wQ b) (wQ c - a) < 0)
end Go.Proofs.YtajcapliokblfaaGreatDoor
namespace Go.Proofs.YtajcapliokblfaaGreatDoor
open Go Go.RowKit Nt
theorem QW_ok (k : Nat) (q : Rat) : ¬ Bt.Ff.isn (QW k q) := by
  have key : ∀ (g : Bool) (p : Nat), p ≤ 9218868437227405312 → ¬ Bt.Ff.isn (Bt.wf g p) := by
    intro g p hp c
    have c' := (Bt.isn_iff _).1 c
    unfold Bt.Ff.rung at c'
    rw [Bt.wf_eq] at c'
    cases g
    · rw [if_neg Bool.false_ne_true] at c'; omega
    · rw [if_pos rfl, Bt.topped_eq] at c'; omega
  unfold QW
  by_cases h0 : qN q = 0
  · rw [if_pos h0]; intro c; have := (Bt.isn_iff _).1 c; exact absurd this (by decide)
  · rw [if_neg h0, RW_a]
    obtain ⟨m1, m2⟩ := aM_b h0 (qD_pos q)
    refine key _ _ (pk_lt ?_ m2)
    unfold mUp
    split <;> omega
theorem like4_c (x : Nat) (h : ¬ Bt.Ff.isn x) (w : World) : Calls Tryz.prog 38 #[.float .f64 x, .float .f64 x] w fun e w' => e = .returned (.bool true) ∧ Below w.heap.size w w' := by
  have h44 := Bt.ext_bits
  have hne := Bt.isn_ne x
  rw [decide_eq_false h] at hne
  have he : ((x : Int) == (x : Int)) = true := beq_iff_eq.2 rfl
  clear h
  go_enter Tryz.func38, Tryz.ntmps38
  go_wp2
  all_goals go_ret
  all_goals exact ⟨by first | rfl | simp, Below.refl _ _⟩
end Go.Proofs.YtajcapliokblfaaGreatDoor
namespace Go.Proofs
open Go.Shelf
def Tryz.lays103_ren : Go.Shelf.Ren := ⟨fun | 103 => 98 | 210 => 151 | 206 => 159 | n => n, fun | 9 => 9 | 4 => 4 | 24 => 114 | 3 => 3 | n => n, fun | n => n⟩
theorem Tryz.lays103 : Go.Proofs.Lays.n103 Tryz.prog Tryz.lays103_ren := {
  mixed := by kernel_rfl
  f103 := Tryz.func98.trans (congrArg some (by kernel_rfl))
  f206 := Tryz.func159.trans (congrArg some (by kernel_rfl))
  f210 := Tryz.func151.trans (congrArg some (by kernel_rfl))
  t3 := Tryz.underlying3
  a3 := Tryz.isAgg3
  z3 := Tryz.sizeOf3
  v3 := Tryz.zeroValue3
  t4 := Tryz.underlying4
  a4 := Tryz.isAgg4
  z4 := Tryz.sizeOf4
  v4 := Tryz.zeroValue4
  t9 := Tryz.underlying9
  a9 := Tryz.isAgg9
  z9 := Tryz.sizeOf9
  v9 := Tryz.zeroValue9
  t24 := Tryz.underlying114
  a24 := Tryz.isAgg114
  z24 := Tryz.sizeOf114
  v24 := Tryz.zeroValue114 }
open Go.RowKit in
theorem Tryz.strings_CutPrefix (s p : ByteArray) (w : World) :
    Calls Tryz.prog 98 #[.string s, .string p] w fun e w' => e = .returned (.tuple #[.string ⟨(Lib.trimPrefix s.data.toList p.data.toList).toArray⟩, .bool (Lib.hasPrefix s.data.toList p.data.toList)]) ∧ w' = w := Any.strings_CutPrefix Tryz.lays103 s p w
def Tryz.lays217_ren : Go.Shelf.Ren := ⟨fun | 217 => 193 | 266 => 199 | n => n, fun | 9 => 9 | 5 => 5 | 3 => 3 | n => n, fun | n => n⟩
theorem Tryz.lays217 : Go.Proofs.Lays.n217 Tryz.prog Tryz.lays217_ren := {
  mixed := by kernel_rfl
  f217 := Tryz.func193.trans (congrArg some (by kernel_rfl))
  f266 := Tryz.func199.trans (congrArg some (by kernel_rfl))
  t3 := Tryz.underlying3
  a3 := Tryz.isAgg3
  z3 := Tryz.sizeOf3
  v3 := Tryz.zeroValue3
  t5 := Tryz.underlying5
  a5 := Tryz.isAgg5
  z5 := Tryz.sizeOf5
  v5 := Tryz.zeroValue5
  t9 := Tryz.underlying9
  a9 := Tryz.isAgg9
  z9 := Tryz.sizeOf9
  v9 := Tryz.zeroValue9 }
open Go.RowKit Go.Lib in
theorem Tryz.stringslite_IndexByte (s : ByteArray) (c : Int) (w : World) :
    Calls Tryz.prog 193 #[.string s, .int .u8 c] w fun e w' => e = .returned (.int .i64 (Lib.indexByte s.data.toList c.toNat.toUInt8)) ∧ w' = w := Any.stringslite_IndexByte Tryz.lays217 s c w
def Tryz.lays99_ren : Go.Shelf.Ren := ⟨fun | 99 => 106 | 206 => 159 | n => n, fun | 9 => 9 | 4 => 4 | 3 => 3 | n => n, fun | n => n⟩
theorem Tryz.lays99 : Go.Proofs.Lays.n99 Tryz.prog Tryz.lays99_ren := {
  mixed := by kernel_rfl
  f99 := Tryz.func106.trans (congrArg some (by kernel_rfl))
  f206 := Tryz.func159.trans (congrArg some (by kernel_rfl))
  t3 := Tryz.underlying3
  a3 := Tryz.isAgg3
  z3 := Tryz.sizeOf3
  v3 := Tryz.zeroValue3
  t4 := Tryz.underlying4
  a4 := Tryz.isAgg4
  z4 := Tryz.sizeOf4
  v4 := Tryz.zeroValue4
  t9 := Tryz.underlying9
  a9 := Tryz.isAgg9
  z9 := Tryz.sizeOf9
  v9 := Tryz.zeroValue9 }
open Go.RowKit Go.Lib in
theorem Tryz.strings_HasPrefix (s p : ByteArray) (w : World) :
    Calls Tryz.prog 106 #[.string s, .string p] w fun e w' => e = .returned (.bool (Lib.hasPrefix s.data.toList p.data.toList)) ∧ w' = w := Any.strings_HasPrefix Tryz.lays99 s p w
end Go.Proofs
namespace Go.Proofs.YtajcapliokblfaaGreatDoor
open Go Go.RowKit Nt
def atB (c : UInt8) (l : List UInt8) : Nat := (l.takeWhile (· != c)).length
theorem atB_cons (c b : UInt8) (l : List UInt8) : atB c (b :: l) = if b = c then 0 else atB c l + 1 := by
  unfold atB
  rw [List.takeWhile_cons]
  by_cases h : b = c
  · rw [if_pos h, if_neg (by simp [h])]; rfl
  · rw [if_neg h, if_pos (by simp [h])]; rfl
theorem atB_le (c : UInt8) (l : List UInt8) : atB c l ≤ l.length := by
  induction l with
  | nil => exact Nat.le_refl _
  | cons b l ih => rw [atB_cons, List.length_cons]; split <;> omega
theorem index_at (c : UInt8) (l : List UInt8) : Lib.indexByte l c = if atB c l < l.length then (atB c l : Int) else -1 := by
  induction l with
  | nil => rfl
  | cons b l ih =>
    rw [atB_cons, List.length_cons]
    show (if b == c then 0 else if Lib.indexByte l c == -1 then -1 else Lib.indexByte l c + 1) = _
    by_cases h : b = c
    · rw [if_pos (by simp [h]), if_pos h, if_pos (by omega)]; rfl
    · rw [if_neg (by simp [h]), if_neg h, ih]
      by_cases k : atB c l < l.length
      · rw [if_pos k, if_neg (by rw [beq_iff_eq]; omega), if_pos (Nat.succ_lt_succ k)]; omega
      · rw [if_neg k, if_pos (by simp), if_neg (fun c => k (Nat.lt_of_succ_lt_succ c))]
theorem atB_get (c : UInt8) (l : List UInt8) (k : Nat) (hk : k < l.length) : (k < atB c l → l[k] ≠ c) ∧ (k = atB c l → l[k] = c) := by
  induction l generalizing k with
  | nil => exact absurd hk (Nat.not_lt_zero _)
  | cons b l ih =>
    rw [atB_cons]
    cases k with
    | zero => by_cases h : b = c <;> simp [h]
    | succ k =>
      have := ih k (by simpa using hk)
      by_cases h : b = c
      · simp [h]
      · simp only [if_neg h, List.getElem_cons_succ]
        exact ⟨fun k' => this.1 (by omega), fun k' => this.2 (by omega)⟩
@[irreducible] def ixB (c : UInt8) (s : ByteArray) : Nat := atB c s.data.toList
theorem ixB_le (c : UInt8) (s : ByteArray) : ixB c s ≤ s.size := by unfold ixB; exact atB_le c _
theorem ixB_get (c : UInt8) (s : ByteArray) (k : Nat) (hk : k < s.size) : (k < ixB c s → s[k] ≠ c) ∧ (k = ixB c s → s[k] = c) := by
  unfold ixB; exact atB_get c s.data.toList k hk
@[irreducible] def hasB (c : UInt8) (s : ByteArray) : Bool := decide (ixB c s < s.size)
@[irreducible] def headB (c : UInt8) (s : ByteArray) : ByteArray := if hasB c s = true then s.extract 0 (ixB c s) else s
@[irreducible] def tailB (c : UInt8) (s : ByteArray) : ByteArray := if hasB c s = true then s.extract (ixB c s + 1) s.size else ⟨#[]⟩
theorem hasB_iff {c : UInt8} {s : ByteArray} : hasB c s = true ↔ ixB c s < s.size := by unfold hasB; exact decide_eq_true_iff
theorem index_ix (c : UInt8) (s : ByteArray) : Lib.indexByte s.data.toList c = if hasB c s = true then (ixB c s : Int) else -1 := by
  rw [index_at]
  unfold hasB ixB
  simp only [decide_eq_true_iff]
  rfl
set_option maxRecDepth 100000 in
theorem PIndex_c (c : UInt8) (s : ByteArray) (w : World) : Calls Tryz.prog 183 #[.string s, .string ⟨#[c]⟩] w fun e w' => e = .returned (.int .i64 (if hasB c s = true then (ixB c s : Int) else -1)) ∧ w' = w := by
  have hc : ((c.toNat : Int)).toNat.toUInt8 = c := by rw [Int.toNat_natCast]; exact UInt8.ofNat_toNat
  have K := Lib.hid (Tryz.stringslite_IndexByte s (c.toNat : Int))
  rw [hc, index_ix] at K
  clear hc
  by_cases hs : s = ⟨#[c]⟩
  · have h0 : ixB c s = 0 := by subst hs; unfold ixB; show atB c [c] = 0; rw [atB_cons, if_pos rfl]
    have h1 : hasB c s = true := hasB_iff.2 (by rw [h0, hs]; show 0 < 1; omega)
    have hq : ([c] == s.toList) = true := by rw [hs, ba_toList]; simp
    rw [if_pos h1, h0]
    clear K h0 h1 hs
    go_enter Tryz.func183, Tryz.ntmps183
    go_wp2_with fail
    go_ret
    exact ⟨rfl, rfl⟩
  · have hq : ([c] == s.toList) = false := by
      rw [ba_toList, beq_eq_false_iff_ne]
      intro h
      refine hs (ByteArray.ext (Array.ext' ?_))
      exact h.symm
    clear hs
    generalize (if hasB c s = true then (ixB c s : Int) else -1) = z at *
    go_enter Tryz.func183, Tryz.ntmps183
    go_wp2_with (first | (go_at_call 193; go_loud (refine (K.out _).mono ?_; rintro ee w1 ⟨rfl, rfl⟩)))
    go_ret
    exact ⟨rfl, rfl⟩
set_option maxRecDepth 100000 in
theorem PCut1_c (c : UInt8) (s : ByteArray) (w : World) (hz : s.size ≤ 9223372036854775807) : Calls Tryz.prog 152 #[.string s, .string ⟨#[c]⟩] w fun e w' => e = .returned (.tuple #[.string (headB c s), .string (tailB c s), .bool (hasB c s)]) ∧ Below w.heap.size w w' := by
  have K := Lib.hid (PIndex_c c s)
  by_cases h : hasB c s = true
  · have hi := hasB_iff.1 h
    have e1 : headB c s = s.extract 0 (ixB c s) := by unfold headB; rw [if_pos h]
    have e2 : tailB c s = s.extract (ixB c s + 1) s.size := by unfold tailB; rw [if_pos h]
    rw [if_pos h] at K
    rw [h, e1, e2]
    clear h e1 e2
    generalize ixB c s = i at *
    have r1 : ∀ w, (Instr.slice 9 (.string s) none (some (.int .i64 (i : Int))) none).run Tryz.prog w = .ok (.string (s.extract 0 i)) w := fun w => by
      have h := run_slice_string_h (P := Tryz.prog) w 9 s Tryz.underlying9 .i64 (i : Int) (by omega) (by omega)
      rwa [Int.toNat_natCast] at h
    have r2 : ∀ w, (Instr.slice 9 (.string s) (some (.int .i64 ((i : Int) + 1))) none none).run Tryz.prog w = .ok (.string (s.extract (i + 1) s.size)) w := fun w => by
      have h := run_slice_string_l (P := Tryz.prog) w 9 s Tryz.underlying9 .i64 ((i : Int) + 1) (by omega) (by omega)
      rwa [show ((i : Int) + 1).toNat = i + 1 by omega] at h
    go_enter Tryz.func152, Tryz.ntmps152
    go_upto_region 3 with (first | (go_at_call 183; (with_reducible refine (K.out _).mono ?_); rintro ee w1 ⟨rfl, rfl⟩))
    go_region
    go_wp2_with fail
    go_ret3
    exact ⟨rfl, (Below.refl _ _).drew⟩
  · have e1 : headB c s = s := by unfold headB; rw [if_neg h]
    have e2 : tailB c s = ⟨#[]⟩ := by unfold tailB; rw [if_neg h]
    rw [if_neg h] at K
    rw [Bool.eq_false_iff.2 h, e1, e2]
    clear h e1 e2
    go_enter Tryz.func152, Tryz.ntmps152
    go_wp2_with (first | (go_at_call 183; (with_reducible refine (K.out _).mono ?_); rintro ee w1 ⟨rfl, rfl⟩))
    go_ret3
    exact ⟨rfl, Below.refl _ _⟩
set_option maxRecDepth 100000 in
theorem PCut_c (c : UInt8) (s : ByteArray) (w : World) (hz : s.size ≤ 9223372036854775807) : Calls Tryz.prog 99 #[.string s, .string ⟨#[c]⟩] w fun e w' => e = .returned (.tuple #[.string (headB c s), .string (tailB c s), .bool (hasB c s)]) ∧ Below w.heap.size w w' := by
  have K := Lib.hid (fun w => PCut1_c c s w hz)
  generalize headB c s = a at *
  generalize tailB c s = b at *
  generalize hasB c s = z at *
  go_enter Tryz.func99, Tryz.ntmps99
  go_wp2_with (first | (go_at_call 152; (with_reducible refine (K.out _).mono ?_); rintro ee w1 ⟨rfl, hb⟩))
  go_ret3
  exact ⟨rfl, hb⟩
@[irreducible] def begB (c : UInt8) (s : ByteArray) : Bool := decide (∃ h : 0 < s.size, s[0] = c)
@[irreducible] def offB (c : UInt8) (s : ByteArray) : ByteArray := if begB c s = true then s.extract 1 s.size else s
theorem begB_iff {c : UInt8} {s : ByteArray} : begB c s = true ↔ ∃ h : 0 < s.size, s[0] = c := by unfold begB; exact decide_eq_true_iff
theorem has_pre (c : UInt8) (s : ByteArray) : Lib.hasPrefix s.data.toList [c] = begB c s := by
  obtain ⟨⟨l⟩⟩ := s
  cases l with
  | nil =>
    have h : begB c ⟨⟨[]⟩⟩ = false := Bool.eq_false_iff.2 fun k => by obtain ⟨h, _⟩ := begB_iff.1 k; exact absurd h (by decide)
    rw [h]; rfl
  | cons b l =>
    rw [Bool.eq_iff_iff, begB_iff]
    have e : Lib.hasPrefix (b :: l) [c] = (c == b) := by simp [Lib.hasPrefix, List.isPrefixOf]
    show Lib.hasPrefix (b :: l) [c] = true ↔ _
    rw [e, beq_iff_eq]
    exact ⟨fun h => ⟨Nat.succ_pos _, h.symm⟩, fun ⟨_, h⟩ => h.symm⟩
theorem trim_pre (c : UInt8) (s : ByteArray) : (⟨(Lib.trimPrefix s.data.toList [c]).toArray⟩ : ByteArray) = offB c s := by
  unfold Lib.trimPrefix offB
  rw [has_pre]
  by_cases h : begB c s = true
  · rw [if_pos h, if_pos h]
    apply ByteArray.ext
    apply Array.ext'
    rw [ByteArray.data_extract, Array.toList_extract]
    show s.data.toList.drop 1 = _
    rw [List.extract_eq_take_drop, List.take_of_length_le]
    rw [List.length_drop]
    exact Nat.le_refl _
  · rw [if_neg h, if_neg h]
theorem PCutPrefix_c (c : UInt8) (s : ByteArray) (w : World) : Calls Tryz.prog 98 #[.string s, .string ⟨#[c]⟩] w fun e w' => e = .returned (.tuple #[.string (offB c s), .bool (begB c s)]) ∧ Below w.heap.size w w' := by
  have h := Tryz.strings_CutPrefix s ⟨#[c]⟩ w
  rw [show (ByteArray.mk #[c]).data.toList = [c] from rfl, has_pre, trim_pre] at h
  exact h.mono fun e w' h => ⟨h.1, by rw [h.2]; exact Below.refl _ _⟩
theorem PHasPrefix_c (c : UInt8) (s : ByteArray) (w : World) : Calls Tryz.prog 106 #[.string s, .string ⟨#[c]⟩] w fun e w' => e = .returned (.bool (begB c s)) ∧ Below w.heap.size w w' := by
  have h := Tryz.strings_HasPrefix s ⟨#[c]⟩ w
  rw [show (ByteArray.mk #[c]).data.toList = [c] from rfl, has_pre] at h
  exact h.mono fun e w' h => ⟨h.1, by rw [h.2]; exact Below.refl _ _⟩
end Go.Proofs.YtajcapliokblfaaGreatDoor
namespace Go.Proofs.YtajcapliokblfaaGreatDoor
open Go Go.RowKit Nt
def decV (l : List UInt8) : Nat := l.foldl (fun a b => 10 * a + (b.toNat - 48)) 0
theorem decV_snoc (l : List UInt8) (c : UInt8) : decV (l ++ [c]) = 10 * decV l + (c.toNat - 48) := by unfold decV; rw [List.foldl_append]; rfl
def isDig (c : UInt8) : Prop := 48 ≤ c.toNat ∧ c.toNat ≤ 57
instance (c : UInt8) : Decidable (isDig c) := inferInstanceAs (Decidable (_ ∧ _))
theorem decV_lt : ∀ (n : Nat) (l : List UInt8), l.length = n → (∀ c ∈ l, isDig c) → decV l < 10 ^ n := by
  intro n
  induction n with
  | zero => intro l hl _; rw [List.eq_nil_of_length_eq_zero hl]; simp [decV]
  | succ n ih =>
    intro l hl h
    have hne : l ≠ [] := fun c => by rw [c] at hl; simp at hl
    rw [← List.dropLast_concat_getLast hne]
    have h1 := ih l.dropLast (by rw [List.length_dropLast]; omega) (fun x hx => h x ((List.dropLast_sublist l).subset hx))
    have h2 := h (l.getLast hne) (List.getLast_mem hne)
    unfold isDig at h2
    rw [decV_snoc, Nat.pow_succ]; omega
@[irreducible] def preV (s : ByteArray) (k : Nat) : Nat := decV (s.data.toList.take k)
theorem preV_zero (s : ByteArray) : preV s 0 = 0 := by unfold preV; rfl
theorem preV_succ (s : ByteArray) (k : Nat) (h : k < s.size) : preV s (k + 1) = 10 * preV s k + (s[k].toNat - 48) := by
  unfold preV
  have hk : k < s.data.toList.length := by rw [Array.length_toList]; exact h
  rw [List.take_succ_eq_append_getElem hk, decV_snoc]; rfl
def Digits (s : ByteArray) : Prop := ∀ k (h : k < s.size), isDig s[k]
def Valid (s : ByteArray) : Prop := 0 < s.size ∧ Digits s ∧ ¬ (1 < s.size ∧ ∀ h : 0 < s.size, s[0].toNat = 48)
theorem dig_pre {s : ByteArray} (h : Digits s) (k : Nat) (hk : k ≤ s.size) : preV s k < 10 ^ k := by
  unfold preV
  refine decV_lt k _ (by rw [List.length_take, Array.length_toList]; exact Nat.min_eq_left hk) (fun c hc => ?_)
  obtain ⟨j, hj, rfl⟩ := List.getElem_of_mem (List.mem_of_mem_take hc)
  rw [Array.length_toList] at hj
  exact h j hj
def RdOk (s : ByteArray) (k x part ten : Nat) : Prop := preV s k = x * ten + part ∧ part < ten ∧ ∃ j, j < 19 ∧ ten = 10 ^ j
theorem rd_lt {s : ByteArray} {k x part ten : Nat} (h : RdOk s k x part ten) : ten ≤ 1000000000000000000 ∧ part < 1000000000000000000 := by
  obtain ⟨_, h2, j, hj, rfl⟩ := h
  have : (10 : Nat) ^ j ≤ 10 ^ 18 := Nat.pow_le_pow_right (by omega) (by omega)
  have e : (10 : Nat) ^ 18 = 1000000000000000000 := by decide
  omega
theorem rd_step {s : ByteArray} {k x part ten d : Nat} (h : RdOk s k x part ten) (hd : preV s (k + 1) = 10 * preV s k + d) (hd10 : d < 10) :
    preV s (k + 1) = x * (ten * 10) + (part * 10 + d) ∧ part * 10 + d < ten * 10 := by
  obtain ⟨h1, h2, _⟩ := h
  rw [hd, h1]
  constructor
  · rw [Nat.mul_add, ← Nat.mul_assoc x ten 10]; omega
  · omega
theorem rd_keep {s : ByteArray} {k x part ten d : Nat} (h : RdOk s k x part ten) (hd : preV s (k + 1) = 10 * preV s k + d) (hd10 : d < 10) (hne : ten * 10 ≠ 10000000000000000000) : RdOk s (k + 1) x (part * 10 + d) (ten * 10) := by
  obtain ⟨q1, q2⟩ := rd_step h hd hd10
  refine ⟨q1, q2, ?_⟩
  obtain ⟨_, _, j, hj, rfl⟩ := h
  refine ⟨j + 1, ?_, by rw [Nat.pow_succ]⟩
  rcases Nat.lt_or_ge (j + 1) 19 with h3 | h3
  · exact h3
  · exfalso; apply hne
    have : j = 18 := by omega
    subst this; decide
theorem rd_push {s : ByteArray} {k x part ten d : Nat} (h : RdOk s k x part ten) (hd : preV s (k + 1) = 10 * preV s k + d) (hd10 : d < 10) : RdOk s (k + 1) (x * (ten * 10) + (part * 10 + d)) 0 1 := by
  obtain ⟨q1, q2⟩ := rd_step h hd hd10
  exact ⟨by rw [Nat.mul_one, Nat.add_zero]; exact q1, by omega, 0, by omega, by rw [Nat.pow_zero]⟩
@[irreducible] def t19B (x : Nat) : Bool := decide (x = 10000000000000000000)
theorem t19_yes {x : Nat} (h : x = 10000000000000000000) : t19B x = true := by unfold t19B; exact decide_eq_true h
theorem t19_no {x : Nat} (h : x ≠ 10000000000000000000) : t19B x = false := by unfold t19B; exact decide_eq_false h
@[local go_sem] theorem eq_t19 (x : Nat) : ((x : Int) == 10000000000000000000) = t19B x := by
  unfold t19B; rw [Bool.eq_iff_iff, beq_iff_eq, decide_eq_true_iff]; omega
theorem pre_ge {s : ByteArray} (hd : Digits s) (h0 : 0 < s.size) (h1 : s[0].toNat ≠ 48) : ∀ k, k + 1 ≤ s.size → 10 ^ k ≤ preV s (k + 1) := by
  intro k
  induction k with
  | zero =>
    intro _
    rw [preV_succ s 0 h0, preV_zero]
    have := hd 0 h0; unfold isDig at this
    rw [Nat.pow_zero]; omega
  | succ k ih =>
    intro hk
    have := ih (by omega)
    rw [preV_succ s (k + 1) (by omega), Nat.pow_succ]; omega
@[irreducible] def E39 : Nat := 39457
@[irreducible] def E16 : Nat := 16384
theorem E39_eq : E39 = 39457 := by unfold E39; rfl
theorem E16_eq : E16 = 16384 := by unfold E16; rfl
theorem big_ten : (256 : Nat) ^ E16 ≤ 10 ^ E39 := by unfold E16 E39; decide +kernel
theorem not_fits_ten {n : Nat} (h : 10 ^ E39 ≤ n) : ¬ fits n := by
  unfold fits
  rw [← E16_eq, ← lt_pow_iff (by omega)]
  exact Nat.not_lt.2 (Nat.le_trans big_ten h)
theorem long_dec {s : ByteArray} (hd : Digits s) (h0 : 0 < s.size) (h1 : s[0].toNat ≠ 48) (hl : 39457 < s.size) : ¬ fits (preV s s.size) := by
  obtain ⟨m, hm⟩ : ∃ m, s.size = m + 1 := ⟨s.size - 1, by omega⟩
  have := pre_ge hd h0 h1 m (by omega)
  rw [hm]
  exact not_fits_ten (Nat.le_trans (Nat.pow_le_pow_right (by omega) (by rw [E39_eq]; omega)) this)
set_option maxRecDepth 100000 in
theorem NRead_empty (s : ByteArray) (w : World) (h : s.size = 0) :
    Calls Tryz.prog 100 #[.string s] w (StrPost ⟨#[]⟩ 22 w) := by
  have hE := toList_empty h
  have H := Lib.hid h
  clear h
  go_enter Tryz.func100, Tryz.ntmps100
  go_wp2
  go_ret2
  exact ⟨rfl, Below.refl _ _⟩
set_option maxRecDepth 100000 in
theorem NRead_nought (s : ByteArray) (w : World) (h : 1 < s.size) (h0 : s[0].toNat = 48) (hs : s.size ≤ 9223372036854775807) :
    Calls Tryz.prog 100 #[.string s] w (StrPost ⟨#[]⟩ 22 w) := by
  have hp : 0 < s.size := by omega
  have hE := toList_full hp
  have hE2 := toList_full2 hp
  have h48 : ((s[0].toNat : Int) == 48) = true := by rw [beq_iff_eq]; omega
  have hI : (1 : Int) < (s.size : Int) := by omega
  have H0 := Lib.hid h0
  clear h0
  go_enter Tryz.func100, Tryz.ntmps100
  go_wp2
  go_ret2
  exact ⟨rfl, Below.refl _ _⟩
theorem head_no {s : ByteArray} (hp : 0 < s.size) (hn : ¬ (1 < s.size ∧ ∀ h : 0 < s.size, s[0].toNat = 48)) : ((s[0].toNat : Int) == 48) = false ∨ (((s[0].toNat : Int) == 48) = true ∧ ¬ (1 : Int) < (s.size : Int) ∧ ¬ 1 < s.size) := by
  by_cases h : s[0].toNat = 48
  · refine Or.inr ⟨by rw [beq_iff_eq]; omega, ?_, ?_⟩
    · intro c; exact hn ⟨by omega, fun _ => h⟩
    · intro c; exact hn ⟨c, fun _ => h⟩
  · exact Or.inl (by rw [beq_eq_false_iff_ne]; omega)
set_option maxRecDepth 100000 in
set_option maxHeartbeats 1000000 in
theorem NRead_bad (s : ByteArray) (w : World) (hs : s.size ≤ 9223372036854775807) (hp : 0 < s.size) (hn : ¬ (1 < s.size ∧ ∀ h : 0 < s.size, s[0].toNat = 48)) (hd : ¬ Digits s) :
    Calls Tryz.prog 100 #[.string s] w (StrPost ⟨#[]⟩ 22 w) := by
  have hE := toList_full hp
  have hE2 := toList_full2 hp
  have HD := Lib.hid hd
  have hh := head_no hp hn
  clear hn hd
  rcases hh with h1 | ⟨h1, h2, h3⟩
  all_goals
    go_enter Tryz.func100, Tryz.ntmps100
    go_wp2
    go_loop [23] (fun i => ∃ k : Nat, k ≤ s.size ∧ i = .int .i64 k ∧ Hid (∀ j (h : j < s.size), j < k → isDig s[j])) (fun i => s.size - (intOf i).toNat)
    case atStart => exact ⟨0, Nat.zero_le _, rfl, Lib.hid (fun j h hj => by omega)⟩
    case round =>
      obtain ⟨k, hk, rfl, hdg⟩ := hrel
      by_cases hlt : k < s.size
      · by_cases hdk : isDig s[k]
        · have hN : Hid (∀ j (h : j < s.size), j < k + 1 → isDig s[j]) := Lib.hid (fun j h hj => by
            rcases Nat.lt_or_ge j k with h4 | h4
            · exact hdg.out j h h4
            · obtain rfl : j = k := by omega
              exact hdk)
          unfold isDig at hdk
          have q1 : ¬ (s[k].toNat : Int) < 48 := by omega
          have q2 : ¬ (57 : Int) < (s[k].toNat : Int) := by omega
          clear hdk
          go_wp2
          go_round
          case rel => exact ⟨k + 1, by omega, by go_num, hN⟩
          case measure => simp [intOf]; omega
        · unfold isDig at hdk
          by_cases q1 : s[k].toNat < 48
          · have q2 : (s[k].toNat : Int) < 48 := by omega
            clear hdk
            go_wp2
            go_ret2
            exact ⟨rfl, Below.refl _ _⟩
          · have q2 : ¬ (s[k].toNat : Int) < 48 := by omega
            have q3 : (57 : Int) < (s[k].toNat : Int) := by omega
            clear hdk
            go_wp2
            go_ret2
            exact ⟨rfl, Below.refl _ _⟩
      · exact absurd (fun j h => hdg.out j h (by omega)) HD.out
theorem first_no {s : ByteArray} (hd : Digits s) (k : Nat) (h : k < s.size) : ¬ (s[k].toNat : Int) < 48 ∧ ¬ (57 : Int) < (s[k].toNat : Int) := by
  have := hd k h; unfold isDig at this; omega
theorem ndW_dec {n k : Nat} (h : n < 10 ^ k) : nd W n ≤ k := by
  refine nd_le W2 (Nat.lt_of_lt_of_le h (Nat.pow_le_pow_left ?_ k))
  rw [W_eq]; omega
set_option maxRecDepth 100000 in
set_option maxHeartbeats 4000000 in
theorem NRead_ok (s : ByteArray) (w : World) (hs : s.size ≤ 9223372036854775807) (hv : Valid s) (hlong : 39457 < s.size → ¬ fits (preV s s.size)) :
    Calls Tryz.prog 100 #[.string s] w (StrPost (resS (preV s s.size)) (resE (preV s s.size)) w) := by
  obtain ⟨hp, hd, hn⟩ := hv
  have hE := toList_full hp
  have hE2 := toList_full2 hp
  have HD := Lib.hid hd
  have hh := head_no hp hn
  have HL := Lib.hid hlong
  clear hn hd hlong
  rcases hh with h1 | ⟨h1, h2, h3⟩
  all_goals
    go_enter Tryz.func100, Tryz.ntmps100
    go_wp2
    go_loop [23] (fun i => ∃ k : Nat, k ≤ s.size ∧ i = .int .i64 k) (fun i => s.size - (intOf i).toNat)
    case atStart => exact ⟨0, Nat.zero_le _, rfl⟩
    case round =>
      obtain ⟨k, hk, rfl⟩ := hrel
      by_cases hlt : k < s.size
      · obtain ⟨q1, q2⟩ := first_no HD.out k hlt
        go_wp2
        go_round
        case rel => exact ⟨k + 1, by omega, by go_num⟩
        case measure => simp [intOf]; omega
      · obtain rfl : k = s.size := by omega
        by_cases hbig : 39457 < s.size
        · have hbI : (39457 : Int) < (s.size : Int) := by omega
          have e1 := Lib.hid (resS_no (HL.out hbig))
          have e2 := Lib.hid (resE_no (HL.out hbig))
          go_wp2
          go_ret2
          exact ⟨by rw [e1.out, e2.out]; rfl, Below.refl _ _⟩
        · have hbI : ¬ (39457 : Int) < (s.size : Int) := by omega
          have hsz : s.size ≤ 39457 := by omega
          have hszI : (s.size : Int) ≤ 39457 := by omega
          go_wp2
          go_loopw [5, 6, 7, 42] (fun x y z i wr => ∃ (k X part ten c : Nat) (A : Option Addr), k ≤ s.size ∧ i = .int .i64 k ∧ x = .slice A (nd W X) c ∧ y = .int .u64 part ∧ z = .int .u64 ten ∧ nd W X ≤ c ∧ Hid (Row wr wr.heap.size A X (nd W X)) ∧ Hid (RdOk s k X part ten) ∧ Hid (k = s.size → part = 0 ∧ ten = 1) ∧ Below w.heap.size w wr) (fun _ _ _ i _ => s.size - (intOf i).toNat)
          case atStart =>
            have e : nd W 0 = 0 := nd_zero _
            exact ⟨0, 0, 0, 1, 0, none, Nat.zero_le _, rfl, by rw [e], rfl, rfl, by rw [e]; exact Nat.le_refl _, by rw [e]; exact Lib.hid Row.none_, Lib.hid ⟨by rw [preV_zero], by omega, 0, by omega, by rw [Nat.pow_zero]⟩, Lib.hid (fun h => ⟨rfl, rfl⟩), Below.refl _ _⟩
          case round =>
            obtain ⟨k, X, part, ten, c, A, hk, rfl, rfl, rfl, rfl, hc, hrow, hrd, hlast, hb⟩ := hrel
            by_cases hlt : k < s.size
            · obtain ⟨d, hdd⟩ : ∃ d, d = s[k].toNat - 48 := ⟨_, rfl⟩
              have hdig := HD.out k hlt
              unfold isDig at hdig
              have hd10 : d < 10 := by omega
              have hpre := preV_succ s k hlt
              rw [← hdd] at hpre
              obtain ⟨ht, hpt⟩ := rd_lt hrd.out
              obtain ⟨t10, ht10⟩ : ∃ t10, t10 = ten * 10 := ⟨_, rfl⟩
              obtain ⟨p10, hp10⟩ : ∃ p10, p10 = part * 10 := ⟨_, rfl⟩
              obtain ⟨p', hp'⟩ : ∃ p', p' = p10 + d := ⟨_, rfl⟩
              have w1 : IntKind.u64.wrap ((part : Int) * 10) = (p10 : Int) := by rw [IntKind.wrap_u64]; omega
              have w2 : IntKind.u8.wrap ((s[k].toNat : Int) - 48) = (d : Int) := by rw [show (s[k].toNat : Int) - 48 = ((d : Nat) : Int) by omega, wrap_u8]; omega
              have w3 : IntKind.u64.wrap (d : Int) = (d : Int) := by rw [IntKind.wrap_u64]; omega
              have w4 : IntKind.u64.wrap ((p10 : Int) + (d : Int)) = (p' : Int) := by rw [IntKind.wrap_u64]; omega
              have w5 : IntKind.u64.wrap ((ten : Int) * 10) = (t10 : Int) := by rw [IntKind.wrap_u64]; omega
              have hXw : nd W X ≤ 39457 := by
                have h5 := dig_pre HD.out k hk
                have h6 : X < 10 ^ k := by
                  refine Nat.lt_of_le_of_lt ?_ h5
                  rw [hrd.out.1]
                  obtain ⟨_, hlt1, j, hj, rfl⟩ := hrd.out
                  have := Nat.mul_le_mul_left X (Nat.pow_pos (n := j) (show 0 < 10 by omega))
                  omega
                have := ndW_dec h6; omega
              have hstep := rd_push hrd.out hpre hd10
              rw [← ht10, show part * 10 + d = p' by omega] at hstep
              have hkeep := fun h => rd_keep hrd.out hpre hd10 h
              rw [← ht10, show part * 10 + d = p' by omega] at hkeep
              have HST := Lib.hid hstep
              have HKP := Lib.hid hkeep
              have l1 := Lib.hid (show t10 < 18446744073709551616 by omega)
              have l2 := Lib.hid (show p' < 18446744073709551616 by omega)
              have HW := Lib.hid hXw
              clear hdd hdig hpre ht hpt ht10 hp10 hp' hXw hstep hkeep
              have hcs : (t19B t10 = true ∨ (t19B t10 = false ∧ k + 1 = s.size)) ∨ (t10 ≠ 10000000000000000000 ∧ k + 1 ≠ s.size) := by
                by_cases g1 : t10 = 10000000000000000000
                · exact Or.inl (Or.inl (t19_yes g1))
                · by_cases g2 : k + 1 = s.size
                  · exact Or.inl (Or.inr ⟨t19_no g1, g2⟩)
                  · exact Or.inr ⟨g1, g2⟩
              rcases hcs with g | ⟨g1, g2⟩
              · rcases g with g | ⟨g, g2⟩
                case' inr =>
                  have hl : ((k : Int) == (s.size : Int) - 1) = true := by rw [beq_iff_eq]; omega
                  have G2 := Lib.hid g2
                  clear g2
                all_goals
                  go_wp2_with (go_at_call 153; refine (Put_c _ _ _ _ _ _ _ l1.out l2.out (by have := HW.out; omega) hrow.out (Nat.le_refl _)).mono ?_; intro e w3 hpp; obtain ⟨A3, c3, rfl, hc3, hr3, hb3⟩ := hpp.get; have HR3 := Lib.hid hr3; clear hr3 hpp)
                  have hbb := hb.trans (hb3.mono hb.size)
                  go_roundw
                  case rel => exact ⟨k + 1, _, 0, 1, c3, A3, by omega, by go_num, rfl, rfl, rfl, hc3, HR3, HST, Lib.hid (fun _ => ⟨rfl, rfl⟩), hbb⟩
                  case measure => simp [intOf]; omega
              · have hl : ((k : Int) == (s.size : Int) - 1) = false := by rw [beq_eq_false_iff_ne]; omega
                have hB := t19_no g1
                have G1 := Lib.hid g1
                have G2 := Lib.hid g2
                clear g1 g2
                go_wp2
                go_roundw
                case rel => exact ⟨k + 1, X, p', t10, c, A, by omega, by go_num, rfl, rfl, rfl, hc, hrow, Lib.hid (HKP.out G1.out), Lib.hid (fun h => absurd h G2.out), hb⟩
                case measure => simp [intOf]; omega
            · obtain rfl : k = s.size := by omega
              obtain ⟨rfl, rfl⟩ := hlast.out rfl
              have hX : X = preV s s.size := by have := hrd.out.1; rw [Nat.mul_one, Nat.add_zero] at this; exact this.symm
              have hXw : nd W X ≤ 39457 := by rw [hX]; exact Nat.le_trans (ndW_dec (dig_pre HD.out s.size (Nat.le_refl _))) hsz
              have HX := Lib.hid hX
              have HW := Lib.hid hXw
              clear hX hXw
              go_wp2_with (go_at_call 115; refine (made_c _ _ _ _ _ (by have := HW.out; omega) hrow.out (Nat.le_refl _)).mono ?_; rintro e w' ⟨rfl, hb'⟩)
              go_ret2
              exact ⟨by rw [← HX.out]; rfl, hb.trans (hb'.mono hb.size)⟩
end Go.Proofs.YtajcapliokblfaaGreatDoor
namespace Go.Proofs.YtajcapliokblfaaGreatDoor
open Go Go.RowKit Nt
def dlen (n : Nat) : Nat := if n = 0 then 1 else nd 10 n
theorem decS_size (n : Nat) : (decS n).size = dlen n := by
  unfold dlen
  by_cases h : n = 0
  · subst h; rw [decS_zero, if_pos rfl]; rfl
  · rw [decS_pos h, if_neg h]
    show Array.size _ = _
    simp [digs_length]
theorem decS_get (n j : Nat) (h : j < (decS n).size) : (decS n)[j].toNat = 48 + dgt 10 n (dlen n - 1 - j) := by
  have hj : j < dlen n := by rwa [decS_size] at h
  rw [ba_get]
  by_cases h0 : n = 0
  · subst h0
    have e1 : dlen 0 = 1 := by unfold dlen; rw [if_pos rfl]
    have hj0 : j = 0 := by omega
    subst hj0
    simp only [decS_zero]
    rw [dgt_def]; simp
  · have e : dlen n = nd 10 n := by unfold dlen; rw [if_neg h0]
    simp only [decS_pos h0]
    rw [List.getElem_toArray, List.getElem_map, List.getElem_reverse, digs_get, digs_length, UInt8.toNat_ofNat', Nat.mod_eq_of_lt, e]
    have := dgt_lt (b := 10) (by omega) n (nd 10 n - 1 - j); omega
theorem val_dgt {s : ByteArray} (hd : Digits s) : ∀ k, k ≤ s.size → ∀ j, (hj : j < k) → (h : j < s.size) → s[j].toNat = 48 + dgt 10 (preV s k) (k - 1 - j) := by
  intro k
  induction k with
  | zero => intro _ j hj; omega
  | succ k ih =>
    intro hk j hj h
    have hdk := hd k (by omega)
    unfold isDig at hdk
    rw [preV_succ s k (by omega)]
    rcases Nat.lt_or_ge j k with h1 | h1
    · rw [ih (by omega) j h1 h, show k + 1 - 1 - j = 1 + (k - 1 - j) by omega]
      congr 1
      have e := dgt_shift (b := 10) (by omega) (s[k].toNat - 48) (preV s k) 1 (1 + (k - 1 - j)) (by rw [Nat.pow_one]; omega) (by omega)
      rw [Nat.pow_one, Nat.add_comm] at e
      rw [e]; congr 1; omega
    · obtain rfl : j = k := by omega
      rw [show j + 1 - 1 - j = 0 by omega, dgt_def, Nat.pow_zero, Nat.div_one]; omega
theorem dec_of_pre {s : ByteArray} (h : Valid s) : decS (preV s s.size) = s := by
  obtain ⟨hp, hd, hn⟩ := h
  have hlen : dlen (preV s s.size) = s.size := by
    by_cases h48 : s[0].toNat = 48
    · have h1 : s.size = 1 := by
        rcases Nat.lt_or_ge 1 s.size with h | h
        · exact absurd ⟨h, fun _ => h48⟩ hn
        · omega
      have h0 : preV s s.size = 0 := by rw [h1, preV_succ s 0 hp, preV_zero, h48]
      rw [h0, h1]; unfold dlen; rw [if_pos rfl]
    · obtain ⟨m, hm⟩ : ∃ m, s.size = m + 1 := ⟨s.size - 1, by omega⟩
      have h1 := pre_ge hd hp h48 m (by omega)
      have h2 := dig_pre hd s.size (Nat.le_refl _)
      rw [← hm] at h1
      have h3 : preV s s.size ≠ 0 := by have := Nat.pow_pos (n := m) (show 0 < 10 by omega); omega
      unfold dlen
      rw [if_neg h3, hm]
      rw [hm] at h1 h2
      exact nd_unique (by omega) h1 h2
  apply ba_ext (by rw [decS_size, hlen])
  intro j h1 h2
  rw [decS_get _ j h1, val_dgt hd s.size (Nat.le_refl _) j h2 h2, hlen]
theorem NRead_c (s : ByteArray) (w : World) (hs : s.size ≤ 9223372036854775807) (hv : Valid s) : Calls Tryz.prog 100 #[.string s] w (StrPost (resS (preV s s.size)) (resE (preV s s.size)) w) :=
  NRead_ok s w hs hv (fun hl => long_dec hv.2.1 hv.1 (fun c => hv.2.2 ⟨by omega, fun _ => c⟩) hl)
theorem NRead_no (s : ByteArray) (w : World) (hs : s.size ≤ 9223372036854775807) (hv : ¬ Valid s) : Calls Tryz.prog 100 #[.string s] w (StrPost ⟨#[]⟩ 22 w) := by
  by_cases h0 : s.size = 0
  · exact NRead_empty s w h0
  · have hp : 0 < s.size := by omega
    by_cases hn : 1 < s.size ∧ ∀ h : 0 < s.size, s[0].toNat = 48
    · exact NRead_nought s w hn.1 (hn.2 hp) hs
    · exact NRead_bad s w hs hp hn (fun hd => hv ⟨hp, hd, hn⟩)
theorem NText_any (n : Nat) (w : World) (hf : fits n) : Calls Tryz.prog 96 #[.string (natS n)] w (StrPost (decS n) 0 w) := by
  by_cases h : n = 0
  · subst h; exact NText_zero w
  · exact NText_c n w hf h
end Go.Proofs.YtajcapliokblfaaGreatDoor
namespace Go.Proofs.YtajcapliokblfaaGreatDoor
open Go Go.RowKit Nt
theorem Own.set_ {w : World} {B g L cap : Nat} {T : TypeId} {k : IntKind} {l : List Nat} (h : Own w B T k (.slice (some ⟨g, 0, none⟩) L cap) l) (j x : Nat) :
    Own (w.setCell ⟨g, j, none⟩ (.int k (x : Nat))) B T k (.slice (some ⟨g, 0, none⟩) L cap) (l.set j x) := by
  have h1 := h.1
  rcases h.2 with ⟨e, _⟩ | ⟨g', cap', cur, e, hB, hh, hn, hm, hs, ht⟩
  · cases e
  · injection e with e1 e2 e3
    injection e1 with e1
    injection e1 with e1 _ _
    subst e1 e3
    refine ⟨by simp, Or.inr ⟨g, cap, cur.setIfInBounds j (.int k (x : Nat)), ?_, hB, Blk.set_ hh j _, ?_, hm, by simpa using hs, ?_⟩⟩
    · rw [List.length_set, e2]
    · rw [List.length_set]; exact hn
    · rw [List.length_set, Array.toList_setIfInBounds, List.take_set, ht, List.map_set]
theorem Own.far {w : World} {B : Nat} {T : TypeId} {k : IntKind} {v : Value} {l : List Nat} (h : Own w B T k v l) {p : Addr} (hp : p.block < B) (x : Value) : Own (w.setCell p x) B T k v l := by
  rcases h.2 with ⟨rfl, h0⟩ | ⟨g', cap', cur, e, hB, hh, hn, hm, hs, ht⟩
  · exact ⟨h.1, Or.inl ⟨rfl, h0⟩⟩
  · exact ⟨h.1, Or.inr ⟨g', cap', cur, e, hB, (Below.heap_setCell w p x g' (by omega)).trans hh, hn, hm, hs, ht⟩⟩
def tenF (m k p : Nat) : Nat := if p < k then dgt 256 m p else dgt 256 (m / 10) p
theorem tenF_start (m N : Nat) : (List.range N).map (tenF m (nd 256 m)) = dl 256 m N := by
  unfold dl
  apply List.map_congr_left
  intro p _
  unfold tenF
  split
  · rfl
  · rw [dgt_big (by omega) (show nd 256 m ≤ p by omega), dgt_big (by omega) (Nat.le_trans (nd_mono (by omega) (Nat.div_le_self m 10)) (show nd 256 m ≤ p by omega))]
theorem tenF_end (m N : Nat) : (List.range N).map (tenF m 0) = dl 256 (m / 10) N := by
  unfold dl
  apply List.map_congr_left
  intro p _
  unfold tenF
  rw [if_neg (by omega)]
theorem range_set {F F' : Nat → Nat} {N j x : Nat} (h : ∀ p, p < N → (if p = j then x else F p) = F' p) : ((List.range N).map F).set j x = (List.range N).map F' := by
  apply List.ext_getElem (by simp)
  intro p h1 h2
  have hp : p < N := by simpa using h2
  rw [List.getElem_set]
  have := h p hp
  by_cases c : j = p
  · rw [if_pos c]; rw [if_pos c.symm] at this; simpa using this
  · rw [if_neg c]; rw [if_neg (fun c2 => c c2.symm)] at this; simpa using this
theorem tenF_step (m N k : Nat) : ((List.range N).map (tenF m (k + 1))).set k (dgt 256 (m / 10) k) = (List.range N).map (tenF m k) := by
  refine range_set fun p _ => ?_
  unfold tenF
  by_cases c : p = k
  · rw [if_pos c, if_neg (by omega), c]
  · rw [if_neg c]
    by_cases c2 : p < k
    · rw [if_pos (by omega), if_pos c2]
    · rw [if_neg (by omega), if_neg c2]
theorem ten_digit {m k R d q r : Nat} (hR : R = m / 256 ^ (k + 1) % 10) (hd : d = dgt 256 m k) (hq : q = dgt 256 (m / 10) k) (hr : r = m / 256 ^ k % 10) :
    ((256 : Int) * (R : Int) + (d : Int)).tdiv 10 = (q : Int) ∧ ((256 : Int) * (R : Int) + (d : Int)) % 10 = (r : Int) ∧ R ≤ 9 ∧ d < 256 ∧ q < 256 ∧ r ≤ 9 := by
  have h1 := take_rest (b := 256) (by omega) m 10 k
  have h2 := take_quo (b := 256) (by omega) m 10 k (by omega)
  have h3 := dgt_lt (b := 256) (by omega) m k
  have h4 := dgt_lt (b := 256) (by omega) (m / 10) k
  rw [← hR, ← hd, ← hr] at h1
  rw [← hR, ← hd, ← hq] at h2
  rw [← hd] at h3
  rw [← hq] at h4
  refine ⟨by rw [Int.tdiv_eq_ediv_of_nonneg (by omega)]; omega, by omega, by omega, h3, h4, by omega⟩
theorem ten_first {m j : Nat} (hj : j = nd 256 m) : m / 256 ^ j % 10 = 0 := by
  rw [Nat.div_eq_of_lt (by rw [hj]; exact lt_nd (by omega))]
theorem trim_more {z q : Nat} (h : nd 256 z ≤ q + 1) (h0 : dgt 256 z q = 0) : nd 256 z ≤ q := by
  rcases Nat.lt_or_ge q (nd 256 z) with c | c
  · have hz : z ≠ 0 := fun e => by rw [e, nd_zero] at c; omega
    have := dgt_top (b := 256) (by omega) hz
    rw [show nd 256 z - 1 = q by omega] at this
    exact absurd h0 this
  · exact c
theorem trim_end {z q : Nat} (h : nd 256 z ≤ q + 1) (h0 : dgt 256 z q ≠ 0) : nd 256 z = q + 1 := by
  rcases Nat.lt_or_ge q (nd 256 z) with c | c
  · omega
  · exact absurd (dgt_big (by omega) c) h0
end Go.Proofs.YtajcapliokblfaaGreatDoor
namespace Go.Proofs.YtajcapliokblfaaGreatDoor
open Go Go.RowKit Nt
set_option maxRecDepth 100000 in
theorem rText_zero (w : World) :
    Calls Tryz.prog 97 #[.string (natS 0)] w (fun e w' => e = .returned (.string (decS 0)) ∧ Below w.heap.size w w') := by
  have hE := natS_empty (n := 0) rfl
  have HD := Lib.hid decS_zero
  go_enter Tryz.func97, Tryz.ntmps97
  go_wp2_with fail
  go_ret
  exact ⟨by rw [HD.out]; rfl, Below.refl _ _⟩
set_option maxRecDepth 100000 in
set_option maxHeartbeats 4000000 in
theorem rText_c (n : Nat) (w : World) (hn : nd 256 n ≤ 16384) (h0 : n ≠ 0) :
    Calls Tryz.prog 97 #[.string (natS n)] w (fun e w' => e = .returned (.string (decS n)) ∧ Below w.heap.size w w') := by
  obtain ⟨i0, hi0, hz0, hj1, hj2⟩ := info_parts (P := Tryz.prog) (e := 5) (z := .int .u8 0) (size := 1) (bytes := 1) (by kernel_rfl)
  have hF := natS_full h0
  have hF2 := natS_full2 h0
  have HD := Lib.hid (decS_pos h0)
  have HND : Hid (nd 10 n ≤ 16384 * 8) := Lib.hid (by
    have h1 : nd 2 n ≤ 8 * 16384 := (bits_le n 16384).2 hn
    have h2 : n < 10 ^ nd 2 n := Nat.lt_of_lt_of_le (lt_nd (b := 2) (by omega)) (Nat.pow_le_pow_left (by omega) _)
    have := nd_le (b := 10) (by omega) h2
    omega)
  have KX := Lib.hid (fun w => rDigits_c n w (by omega))
  obtain ⟨N, hN⟩ : ∃ N, N = nd 256 n := ⟨_, rfl⟩
  rw [← hN] at KX hn
  have HN := Lib.hid hN
  have H0 := Lib.hid h0
  clear hN h0
  go_enter Tryz.func97, Tryz.ntmps97
  go_wp2_with fail
  refine (KX.out _).mono ?_
  rintro e w1 ⟨v1, rfl, ho1, hb1⟩
  rcases ho1.form with ⟨rfl, hnil⟩ | ⟨g, cap, cs, rfl, hgB, hgw, hblk, hcap, hcap2, hcs⟩
  · exfalso
    have h1 := congrArg List.length hnil
    rw [dl_length, HN.out] at h1
    exact H0.out ((nd_eq_zero (b := 256) (by omega)).1 h1)
  rw [dl_length] at ho1 ⊢
  have HO1 := Lib.hid ho1
  clear ho1 hcs hcap hcap2 hblk hF hF2
  go_wp2_with fail
  go_loopg [4, 5] n (fun G x y wr => ∃ (m L j : Nat), y = .int .i64 j ∧ j ≤ N ∧ Hid (j = nd 256 m) ∧ Hid (Own wr w.heap.size 3 .i64 (.slice (some ⟨g, 0, none⟩) N cap) (dl 256 m N)) ∧ Hid (Own wr (g + 1) 5 .u8 x (digs n L)) ∧ Hid (m = n / 10 ^ L) ∧ Hid (L ≤ nd 10 n) ∧ m ≤ G ∧ Below w.heap.size w wr ∧ g < wr.heap.size)
  case atStart => exact ⟨n, 0, N, rfl, Nat.le_refl _, HN, HO1, Lib.hid (Own.nil _ _ _ _), Lib.hid (by rw [Nat.pow_zero, Nat.div_one]), Lib.hid (Nat.zero_le _), Nat.le_refl _, hb1, hgw⟩
  case round =>
    obtain ⟨m, L, j, rfl, hj, hjm, hl, hown, hm, hL, hG, hbw, hgr⟩ := hrel
    by_cases hm0 : m = 0
    · subst hm0
      obtain rfl : j = 0 := by rw [hjm.out, nd_zero]
      have hLn : L = nd 10 n := by
        have h1 : n < 10 ^ L := by
          rcases Nat.lt_or_ge n (10 ^ L) with h | h
          · exact h
          · have := Nat.div_pos h (Nat.pow_pos (n := L) (show 0 < 10 by omega)); have := hm.out; omega
        have := nd_le (b := 10) (by omega) h1
        have := hL.out; omega
      subst hLn
      have hown2 := hown.out
      obtain ⟨D, hD⟩ : ∃ D, D = nd 10 n := ⟨_, rfl⟩
      have hlen := digs_length n D
      rw [← hD] at hown2
      have HND2 := HND
      rw [← hD] at HND2
      have hdpos : D ≠ 0 := fun c => H0.out ((nd_eq_zero (b := 10) (by omega)).1 (hD.symm.trans c))
      rcases hown2.form with ⟨rfl, hnil⟩ | ⟨g2, cap2, cs, rfl, hgB2, hgw2, hblk2, hcap2, hcap3, hcs2⟩
      · exfalso
        rw [hnil] at hlen
        exact hdpos hlen.symm
      · rw [hlen]
        have hC : ∀ p, p < D → cs[p]? = some (.int .u8 ((48 + dgt 10 n p : Nat) : Int)) := fun p hp => by
          have h1 : p < (digs n D).length := by rw [hlen]; exact hp
          rw [hcs2 p h1, digs_get n D p h1]
        have HC := Lib.hid hC
        have HB := Lib.hid hblk2
        have HDD := Lib.hid hD
        have HHD := Lib.hid HND2.out
        have hD8 : D ≤ 131072 := by have := HND2.out; omega
        have hw : wrap64 ((D : Int) - 1) = (D : Int) - 1 := IntWalk.wrap64_in _ (by omega)
        have hg2w : w.heap.size ≤ g2 := by omega
        have HDP := Lib.hid hdpos
        clear hC hcs2 hblk2 hlen hown2 hown hl hm hL hjm hD HND2 hgB2 hcap2 hcap3 hG hj hdpos
        go_wp2_with fail
        go_loopw [8, 9] (fun x y wr => ∃ (i : Nat) (z : Int) (cs : Array Value), x = .int .i64 i ∧ y = .int .i64 z ∧ Hid (z = (D : Int) - 1 - (i : Int)) ∧ Hid (2 * i ≤ D + 1) ∧ Hid (Blk wr g2 5 cs) ∧ Hid (∀ j, j < D → cs[j]? = some (.int .u8 (swF (fun p => 48 + dgt 10 n p) D i j : Nat))) ∧ Below w.heap.size w wr) (fun x _ _ => D - (intOf x).toNat)
        case atStart => exact ⟨0, (D : Int) - 1, cs, rfl, rfl, Lib.hid (by omega), Lib.hid (by omega), HB, Lib.hid (fun j hj => by rw [HC.out j hj]; unfold swF; rw [if_neg (by have := HDP.out; omega)]), hbw⟩
        case round =>
          obtain ⟨i, z, cs', rfl, rfl, hz, hi, hblk, hcs, hbw⟩ := hrel
          by_cases hlt : i < D - 1 - i
          · obtain ⟨j, hj⟩ : ∃ j, D = i + 1 + j := ⟨D - i - 1, by omega⟩
            have hjz : z = (j : Int) := by have := hz.out; omega
            have hij : i < j := by omega
            have HJ := Lib.hid hj
            have hin : i < D := by omega
            have hjn : j < D := by omega
            have c1 := hblk.out.cell i
            rw [hcs.out i hin] at c1
            have c2 := hblk.out.cell j
            rw [hcs.out j hjn] at c2
            have f1 := hblk.out.frozen i
            have f2 := hblk.out.frozen j
            have e1 : swF (fun p => 48 + dgt 10 n p) D i i = 48 + dgt 10 n i := by unfold swF; rw [if_neg (by omega)]
            have e2 : swF (fun p => 48 + dgt 10 n p) D i j = 48 + dgt 10 n j := by unfold swF; rw [if_neg (by omega)]
            rw [e1] at c1
            rw [e2] at c2
            have hst := sw_set hcs.out hlt
            rw [show D - 1 - i = j by omega] at hst
            generalize ha : 48 + dgt 10 n i = a at *
            generalize hb : 48 + dgt 10 n j = b at *
            have HST := Lib.hid hst
            have b1 := Lib.hid ((hblk.out.set_ i (.int .u8 (b : Nat))).set_ j (.int .u8 (a : Nat)))
            have bb := (hbw.setCell (p := ⟨g2, i, none⟩) hg2w (.int .u8 (b : Nat))).setCell (p := ⟨g2, j, none⟩) hg2w (.int .u8 (a : Nat))
            have c2' : (wr.setCell ⟨g2, i, none⟩ (.int .u8 (b : Nat))).cell? ⟨g2, j, none⟩ = some (.int .u8 (b : Nat)) := by
              rw [(hblk.out.set_ i _).cell, Array.getElem?_setIfInBounds_ne (by omega), ← hblk.out.cell]
              exact c2
            have f2' : (wr.setCell ⟨g2, i, none⟩ (.int .u8 (b : Nat))).frozen? ⟨g2, j, none⟩ = false := (hblk.out.set_ i _).frozen j
            have hw2 : wrap64 ((j : Int) - 1) = (j : Int) - 1 := IntWalk.wrap64_in _ (by omega)
            have Hi := Lib.hid hi
            have HA := Lib.hid ha
            have HBB := Lib.hid hb
            subst hjz
            clear hst hj hlt e1 e2 ha hb
            go_wp2_with fail
            go_roundw
            case rel =>
              exact ⟨i + 1, (j : Int) - 1, _, by go_num, rfl, Lib.hid (by have := HJ.out; omega), Lib.hid (by have := HJ.out; omega), b1, HST, bb⟩
            case measure => simp [intOf]; omega
          · have hnl : ¬ (i : Int) < z := by have := hz.out; omega
            have HL := Lib.hid hlt
            clear hlt
            have hcv : (convert 64 9 (.slice (some ⟨g2, 0, none⟩) D cap2)).run Tryz.prog wr = .ok (.string (decS n)) wr := by
              rw [HD.out]
              have hl : ((digs n (nd 10 n)).reverse.map UInt8.ofNat).length = D := by rw [List.length_map, List.length_reverse, digs_length, HDD.out]
              have h := run_convert_bytes_back (P := Tryz.prog) wr 64 9 5 ⟨g2, 0, none⟩ cap2 ((digs n (nd 10 n)).reverse.map UInt8.ofNat) Tryz.underlying64 Tryz.underlying5 Tryz.underlying9 (fun p hp => by
                have hp' : p < D := by rw [← hl]; exact hp
                have e : swF (fun p => 48 + dgt 10 n p) D i p = 48 + dgt 10 n (nd 10 n - 1 - p) := by
                  have h1 := HL.out
                  have h2 := hi.out
                  have h3 := HDD.out
                  unfold swF
                  by_cases h4 : p < i ∨ D - i ≤ p
                  · rw [if_pos h4, h3]
                  · rw [if_neg h4]
                    show 48 + dgt 10 n p = _
                    congr 2; omega
                rw [add_plain0, hblk.out.cell, hcs.out p hp', e, List.getElem_map, List.getElem_reverse, digs_get, digs_length, UInt8.toNat_ofNat', Nat.mod_eq_of_lt]
                have := dgt_lt (b := 10) (by omega) n (nd 10 n - 1 - p); omega)
              rw [hl] at h
              exact h
            go_wp2_with fail
            go_ret
            exact ⟨rfl, hbw⟩
    · obtain ⟨jj, rfl⟩ : ∃ jj, j = jj + 1 := by
        refine ⟨j - 1, ?_⟩
        have : nd 256 m ≠ 0 := fun c => hm0 ((nd_eq_zero (by omega)).1 c)
        have := hjm.out
        omega
      have hN4 : N ≤ 16384 := hn
      have HR0 := Lib.hid (ten_first hjm.out)
      have HL0 : Hid (Own wr w.heap.size 3 .i64 (.slice (some ⟨g, 0, none⟩) N cap) ((List.range N).map (tenF m (jj + 1)))) := Lib.hid (by
        rw [hjm.out, tenF_start]; exact hl.out)
      have HM0 := Lib.hid hm0
      have HHG := Lib.hid hG
      have hjI : ((jj + 1 : Nat) : Int) - 1 = (jj : Int) := by omega
      clear hl hm0 hG
      go_wp2_with fail
      go_loopw [6, 7] (fun r ii wr2 => ∃ (k R : Nat) (z : Int), ii = .int .i64 z ∧ z + 1 = (k : Int) ∧ k ≤ jj + 1 ∧ r = .int .i64 R ∧ Hid (R = m / 256 ^ k % 10) ∧ Hid (Own wr2 w.heap.size 3 .i64 (.slice (some ⟨g, 0, none⟩) N cap) ((List.range N).map (tenF m k))) ∧ Hid (Own wr2 (g + 1) 5 .u8 u4 (digs n L)) ∧ Below w.heap.size w wr2 ∧ g < wr2.heap.size) (fun _ ii _ => (intOf ii + 1).toNat)
      case atStart => exact ⟨jj + 1, 0, _, rfl, (by first | rfl | omega | go_num), Nat.le_refl _, rfl, Lib.hid HR0.out.symm, HL0, hown, hbw, hgr⟩
      case round =>
        obtain ⟨k, R, z, rfl, hz, hk, rfl, hR, hl2, hown2, hbw2, hgr2⟩ := hrel
        rcases Nat.eq_zero_or_pos k with rfl | hkp
        · obtain rfl : z = -1 := by omega
          have hRm : R = dgt 10 n L := by
            rw [hR.out, Nat.pow_zero, Nat.div_one, hm.out, dgt_def]
          have hR10 : R < 10 := by rw [hRm]; exact dgt_lt (by omega) _ _
          have HLE : Hid (Own wr w.heap.size 3 .i64 (.slice (some ⟨g, 0, none⟩) N cap) (dl 256 (m / 10) N)) := Lib.hid (by rw [← tenF_end]; exact hl2.out)
          have HLM : Hid (L + 1 ≤ nd 10 n) := Lib.hid ((pow_le_iff (b := 10) (by omega) _ _).1 (by
            rcases Nat.lt_or_ge n (10 ^ L) with c | c
            · exact absurd (by rw [hm.out]; exact Nat.div_eq_of_lt c) HM0.out
            · exact c))
          obtain ⟨y, hy⟩ : ∃ y, y = 48 + R := ⟨_, rfl⟩
          have hyI : (48 : Int) + (R : Int) = (y : Int) := by omega
          have hyw : IntKind.u8.wrap (y : Int) = (y : Int) := by rw [wrap_u8]; omega
          have HDG := Lib.hid (show digs n (L + 1) = digs n L ++ [y] by rw [digs_succ, hy, hRm])
          have hlen : Hid ((digs n L).length + 1 ≤ 17592186044416) := Lib.hid (by rw [digs_length]; have := HND.out; have := hL.out; omega)
          have HZ : Hid (nd 256 (m / 10) ≤ jj + 1) := Lib.hid (by rw [hjm.out]; exact nd_mono (by omega) (Nat.div_le_self _ _))
          have hy8 : y < 58 := by omega
          clear hRm hy hl2 hR hk
          go_wp2_with (at_builtin; go_loud (refine wpList_app1 wr rfl (.tmp 39) (.tmp 43) _ rfl (g + 1) 5 5 i0 .u8 1 Tryz.underlying64 hi0 hz0 hj1 hj2 (by omega) _ (digs n L) y rfl rfl hown2.out hlen.out hgr2 ?_); intro v5 w5 hown5 hb5 hfr5 hnw5)
          rw [← HDG.out] at hown5
          have HO5 := Lib.hid hown5
          have HL5 : Hid (Own w5 w.heap.size 3 .i64 (.slice (some ⟨g, 0, none⟩) N cap) (dl 256 (m / 10) N)) := Lib.hid (HLE.out.below hb5 (fun g' e => by
            have : g = g' := Option.some.inj e
            omega))
          have hbw5 : Below w.heap.size w w5 := hbw2.trans (hb5.mono (by omega))
          have hgr5 : g < w5.heap.size := Nat.lt_of_lt_of_le hgr2 hb5.size
          clear hown5 hfr5 hnw5 hb5 HLE hown2 hbw2 hgr2
          have HM10 : Hid (m / 10 = n / 10 ^ (L + 1)) := Lib.hid (by rw [hm.out, Nat.div_div_eq_div_mul, Nat.pow_succ])
          have HLT : Hid (m / 10 < m) := Lib.hid (Nat.div_lt_self (Nat.pos_of_ne_zero HM0.out) (by omega))
          clear hyI hyw
          go_loopw [5] (fun nn wr3 => ∃ q : Nat, nn = .int .i64 q ∧ q ≤ N ∧ Hid (nd 256 (m / 10) ≤ q) ∧ Hid (Own wr3 w.heap.size 3 .i64 (.slice (some ⟨g, 0, none⟩) N cap) (dl 256 (m / 10) N)) ∧ Hid (Own wr3 (g + 1) 5 .u8 v5 (digs n (L + 1))) ∧ Below w.heap.size w wr3 ∧ g < wr3.heap.size) (fun nn _ => (intOf nn).toNat)
          case atStart => exact ⟨jj + 1, rfl, hj, HZ, HL5, HO5, hbw5, hgr5⟩
          case round =>
            obtain ⟨q, rfl, hq, hz6, hl6, ho6, hb6, hg6⟩ := hrel
            rcases Nat.eq_zero_or_pos q with rfl | hqp
            · have HQ : Hid (0 = nd 256 (m / 10)) := Lib.hid (by have := hz6.out; omega)
              go_wp2_with fail
              go_roundg (m / 10)
              case rel => exact ⟨m / 10, L + 1, 0, rfl, Nat.zero_le _, HQ, hl6, ho6, HM10, HLM, Nat.le_refl _, hb6, hg6⟩
              case measure => have := HHG.out; have := HLT.out; omega
            · obtain ⟨p, rfl⟩ : ∃ p, q = p + 1 := ⟨q - 1, by omega⟩
              have hpI : ((p + 1 : Nat) : Int) - 1 = (p : Int) := by omega
              obtain ⟨g', cap', e1, hgB', hga, hcx, hfx⟩ := hl6.out.cell (j := p) (by rw [dl_length]; omega)
              injection e1 with e1 e2 e3
              injection e1 with e1
              injection e1 with e1 _ _
              subst e1
              rw [dl_get] at hcx
              have hq0 : (0 : Int) < ((p + 1 : Nat) : Int) := by omega
              by_cases hd0 : dgt 256 (m / 10) p = 0
              · rw [hd0] at hcx
                have HT := Lib.hid (trim_more hz6.out hd0)
                clear hd0 e2 e3 hqp
                go_wp2_with fail
                go_roundw
                case rel => exact ⟨p, by go_num, by omega, HT, hl6, ho6, hb6, hg6⟩
                case measure => simp [intOf]
              · have HT := Lib.hid (trim_end hz6.out hd0).symm
                generalize dgt 256 (m / 10) p = d at *
                have hdI : ((d : Int) == 0) = false := by rw [beq_eq_false_iff_ne]; omega
                have hdI2 : ¬ (d : Int) = 0 := by omega
                have hd2 : ¬ d = 0 := hd0
                clear e2 e3 hqp
                go_wp2_with fail
                go_roundg (m / 10)
                case rel => exact ⟨m / 10, L + 1, p + 1, rfl, hq, HT, hl6, ho6, HM10, HLM, Nat.le_refl _, hb6, hg6⟩
                case measure => have := HHG.out; have := HLT.out; omega
        · obtain ⟨k', rfl⟩ : ∃ k', k = k' + 1 := ⟨k - 1, by omega⟩
          obtain rfl : z = (k' : Int) := by omega
          obtain ⟨g', cap', e1, hgB', hga, hcx, hfx⟩ := hl2.out.cell (j := k') (by simp; omega)
          injection e1 with e1 e2 e3
          injection e1 with e1
          injection e1 with e1 _ _
          subst e1
          obtain ⟨d, hd⟩ : ∃ d, d = dgt 256 m k' := ⟨_, rfl⟩
          obtain ⟨q, hq⟩ : ∃ q, q = dgt 256 (m / 10) k' := ⟨_, rfl⟩
          obtain ⟨r, hr⟩ : ∃ r, r = m / 256 ^ k' % 10 := ⟨_, rfl⟩
          obtain ⟨t1, t2, t3, t4, t5, t6⟩ := ten_digit hR.out hd hq hr
          have hcx2 : wr.cell? ⟨g, k', none⟩ = some (.int .i64 (d : Nat)) := by rw [hcx, hd]; simp [tenF]
          obtain ⟨V, hV⟩ : ∃ V, V = 256 * R + d := ⟨_, rfl⟩
          have hVI : 256 * (R : Int) + (d : Int) = (V : Int) := by omega
          rw [hVI] at t1 t2
          have hV8 : V ≤ 2600 := by omega
          have HO2 : Hid (Own (wr.setCell ⟨g, k', none⟩ (.int .i64 (q : Nat))) w.heap.size 3 .i64 (.slice (some ⟨g, 0, none⟩) N cap) ((List.range N).map (tenF m k'))) := Lib.hid (by
            rw [← tenF_step, ← hq]; exact hl2.out.set_ k' q)
          have HO3 : Hid (Own (wr.setCell ⟨g, k', none⟩ (.int .i64 (q : Nat))) (g + 1) 5 .u8 u4 (digs n L)) := Lib.hid (hown2.out.far (p := ⟨g, k', none⟩) (Nat.lt_succ_self g) _)
          have hb2 := hbw2.setCell (p := ⟨g, k', none⟩) hgB (.int .i64 (q : Nat))
          have hgr3 : g < (wr.setCell ⟨g, k', none⟩ (.int .i64 (q : Nat))).heap.size := by simpa [World.setCell] using hgr2
          have HR2 := Lib.hid hr
          clear hcx hl2 hown2 e2 e3 hd hq hr hV hz hkp
          go_wp2_with fail
          go_roundw
          case rel => exact ⟨k', r, _, by go_num, (by first | omega | go_num), by omega, by rw [t2], HR2, HO2, HO3, hb2, hgr3⟩
          case measure => simp [intOf]
end Go.Proofs.YtajcapliokblfaaGreatDoor
namespace Go.Proofs.YtajcapliokblfaaGreatDoor
open Go Go.RowKit Nt
def tmF (x y k p : Nat) : Nat := if p < k then dgt 256 y p else dgt 256 x p
theorem tmF_zero (x y L : Nat) : (List.range L).map (tmF x y 0) = dl 256 x L := by
  unfold dl
  apply List.map_congr_left
  intro p _
  unfold tmF; rw [if_neg (by omega)]
theorem tmF_end (x y k : Nat) : (List.range k).map (tmF x y k) = dl 256 y k := by
  unfold dl
  apply List.map_congr_left
  intro p hp
  unfold tmF; rw [if_pos (by simpa using hp)]
theorem tmF_app {x y k : Nat} (h : nd 256 x ≤ k) : (List.range k).map (tmF x y k) ++ [0] = (List.range (k + 1)).map (tmF x y k) := by
  rw [List.range_succ, List.map_append, List.map_singleton]
  unfold tmF
  rw [if_neg (by omega), dgt_big (by omega) h]
theorem tmF_step (x y N k : Nat) : ((List.range N).map (tmF x y k)).set k (dgt 256 y k) = (List.range N).map (tmF x y (k + 1)) := by
  refine range_set fun p _ => ?_
  unfold tmF
  by_cases c : p = k
  · rw [if_pos c, if_pos (by omega), c]
  · rw [if_neg c]
    by_cases c2 : p < k
    · rw [if_pos c2, if_pos (by omega)]
    · rw [if_neg c2, if_neg (by omega)]
theorem tmF_at (x y k : Nat) : tmF x y k k = dgt 256 x k := by unfold tmF; rw [if_neg (by omega)]
theorem tm_digit {x d k q a s r e : Nat} (hd : d < 10) (hq : q = mca 256 x 10 d k) (ha : a = dgt 256 x k) (hs : s = q + 10 * a) (hr : r = s % 256) (he : e = s / 256) :
    r = dgt 256 (x * 10 + d) k ∧ e = mca 256 x 10 d (k + 1) ∧ q < 256 ∧ a < 256 ∧ e < 256 := by
  have h1 := dgt_mca (b := 256) (by omega) x 10 d k
  have h2 := mca_succ (b := 256) (by omega) x 10 d k
  have h3 := mca_lt (b := 256) (by omega) x 10 d k (by omega) (by omega)
  have h4 := dgt_lt (b := 256) (by omega) x k
  rw [← hq, ← ha] at h1 h2
  rw [← hq] at h3
  rw [← ha] at h4
  have e : a * 10 + q = s := by omega
  rw [e] at h1 h2
  exact ⟨by omega, by omega, h3, h4, by omega⟩
theorem tm_carry {x d k : Nat} (h : nd 256 x ≤ k) : mca 256 x 10 d k = (x * 10 + d) / 256 ^ k := by
  rw [mca_def, Nat.mod_eq_of_lt ((lt_pow_iff (by omega) _ _).2 h)]
theorem tm_end {x d k : Nat} (h : nd 256 x ≤ k) (h0 : mca 256 x 10 d k = 0) : nd 256 (x * 10 + d) ≤ k := by
  rw [tm_carry h] at h0
  refine nd_le (by omega) ?_
  rcases Nat.lt_or_ge (x * 10 + d) (256 ^ k) with c | c
  · exact c
  · have := Nat.div_pos c (Nat.pow_pos (n := k) (show 0 < 256 by omega)); omega
theorem tm_more {x d k : Nat} (h : nd 256 x ≤ k) (h0 : mca 256 x 10 d k ≠ 0) : k + 1 ≤ nd 256 (x * 10 + d) := by
  rw [tm_carry h] at h0
  refine (pow_le_iff (b := 256) (by omega) _ _).1 ?_
  rcases Nat.lt_or_ge (x * 10 + d) (256 ^ k) with c | c
  · exact absurd (Nat.div_eq_of_lt c) h0
  · exact c
set_option maxRecDepth 100000 in
theorem rRead_empty (s : ByteArray) (w : World) (h : s.size = 0) :
    Calls Tryz.prog 101 #[.string s] w (StrPost ⟨#[]⟩ 22 w) := by
  have hE := toList_empty h
  have H := Lib.hid h
  clear h
  go_enter Tryz.func101, Tryz.ntmps101
  go_wp2
  go_ret2
  exact ⟨rfl, Below.refl _ _⟩
set_option maxRecDepth 100000 in
theorem rRead_nought (s : ByteArray) (w : World) (h : 1 < s.size) (h0 : s[0].toNat = 48) (hs : s.size ≤ 9223372036854775807) :
    Calls Tryz.prog 101 #[.string s] w (StrPost ⟨#[]⟩ 22 w) := by
  have hp : 0 < s.size := by omega
  have hE := toList_full hp
  have hE2 := toList_full2 hp
  have h48 : ((s[0].toNat : Int) == 48) = true := by rw [beq_iff_eq]; omega
  have hI : (1 : Int) < (s.size : Int) := by omega
  have H0 := Lib.hid h0
  clear h0
  go_enter Tryz.func101, Tryz.ntmps101
  go_wp2
  go_ret2
  exact ⟨rfl, Below.refl _ _⟩
set_option maxRecDepth 100000 in
set_option maxHeartbeats 1000000 in
theorem rRead_bad (s : ByteArray) (w : World) (hs : s.size ≤ 9223372036854775807) (hp : 0 < s.size) (hn : ¬ (1 < s.size ∧ ∀ h : 0 < s.size, s[0].toNat = 48)) (hd : ¬ Digits s) :
    Calls Tryz.prog 101 #[.string s] w (StrPost ⟨#[]⟩ 22 w) := by
  have hE := toList_full hp
  have hE2 := toList_full2 hp
  have HD := Lib.hid hd
  have hh := head_no hp hn
  clear hn hd
  rcases hh with h1 | ⟨h1, h2, h3⟩
  all_goals
    go_enter Tryz.func101, Tryz.ntmps101
    go_wp2
    go_loop [4] (fun i => ∃ k : Nat, k ≤ s.size ∧ i = .int .i64 k ∧ Hid (∀ j (h : j < s.size), j < k → isDig s[j])) (fun i => s.size - (intOf i).toNat)
    case atStart => exact ⟨0, Nat.zero_le _, rfl, Lib.hid (fun j h hj => by omega)⟩
    case round =>
      obtain ⟨k, hk, rfl, hdg⟩ := hrel
      by_cases hlt : k < s.size
      · by_cases hdk : isDig s[k]
        · have hN : Hid (∀ j (h : j < s.size), j < k + 1 → isDig s[j]) := Lib.hid (fun j h hj => by
            rcases Nat.lt_or_ge j k with h4 | h4
            · exact hdg.out j h h4
            · obtain rfl : j = k := by omega
              exact hdk)
          unfold isDig at hdk
          have q1 : ¬ (s[k].toNat : Int) < 48 := by omega
          have q2 : ¬ (57 : Int) < (s[k].toNat : Int) := by omega
          clear hdk
          go_wp2
          go_round
          case rel => exact ⟨k + 1, by omega, by go_num, hN⟩
          case measure => simp [intOf]; omega
        · unfold isDig at hdk
          by_cases q1 : s[k].toNat < 48
          · have q2 : (s[k].toNat : Int) < 48 := by omega
            clear hdk
            go_wp2
            go_ret2
            exact ⟨rfl, Below.refl _ _⟩
          · have q2 : ¬ (s[k].toNat : Int) < 48 := by omega
            have q3 : (57 : Int) < (s[k].toNat : Int) := by omega
            clear hdk
            go_wp2
            go_ret2
            exact ⟨rfl, Below.refl _ _⟩
      · exact absurd (fun j h => hdg.out j h (by omega)) HD.out
set_option maxRecDepth 100000 in
set_option maxHeartbeats 4000000 in
theorem rRead_ok (s : ByteArray) (w : World) (hs : s.size ≤ 9223372036854775807) (hv : Valid s) (hlong : 39457 < s.size → ¬ fits (preV s s.size)) :
    Calls Tryz.prog 101 #[.string s] w (StrPost (resS (preV s s.size)) (resE (preV s s.size)) w) := by
  obtain ⟨i0, hi0, hz0, hj1, hj2⟩ := info_parts (P := Tryz.prog) (e := 3) (z := .int .i64 0) (size := 1) (bytes := 8) (by kernel_rfl)
  obtain ⟨hp, hd, hn⟩ := hv
  have hE := toList_full hp
  have hE2 := toList_full2 hp
  have HD := Lib.hid hd
  have hh := head_no hp hn
  have HL := Lib.hid hlong
  clear hn hd hlong
  rcases hh with h1 | ⟨h1, h2, h3⟩
  all_goals
    go_enter Tryz.func101, Tryz.ntmps101
    go_wp2
    go_loop [4] (fun i => ∃ k : Nat, k ≤ s.size ∧ i = .int .i64 k) (fun i => s.size - (intOf i).toNat)
    case atStart => exact ⟨0, Nat.zero_le _, rfl⟩
    case round =>
      obtain ⟨k, hk, rfl⟩ := hrel
      by_cases hlt : k < s.size
      · obtain ⟨q1, q2⟩ := first_no HD.out k hlt
        go_wp2
        go_round
        case rel => exact ⟨k + 1, by omega, by go_num⟩
        case measure => simp [intOf]; omega
      · obtain rfl : k = s.size := by omega
        by_cases hbig : 49152 < s.size
        · have hbI : (49152 : Int) < (s.size : Int) := by omega
          have e1 := Lib.hid (resS_no (HL.out (by omega)))
          have e2 := Lib.hid (resE_no (HL.out (by omega)))
          go_wp2
          go_ret2
          exact ⟨by rw [e1.out, e2.out]; rfl, Below.refl _ _⟩
        · have hbI : ¬ (49152 : Int) < (s.size : Int) := by omega
          have hsz : s.size ≤ 49152 := by omega
          have hszI : (s.size : Int) ≤ 49152 := by omega
          go_wp2
          go_loopw [5, 6] (fun v ii wr => ∃ (i x h c : Nat) (A : Option Addr), i ≤ s.size ∧ ii = .int .i64 i ∧ v = .slice A h c ∧ h ≤ 49152 ∧ Hid (x = preV s i) ∧ Hid (nd 256 x = h) ∧ Hid (Own wr w.heap.size 3 .i64 (.slice A h c) (dl 256 x h)) ∧ Below w.heap.size w wr) (fun _ ii _ => s.size - (intOf ii).toNat)
          case atStart =>
            exact ⟨0, 0, 0, 0, none, Nat.zero_le _, rfl, rfl, by omega, Lib.hid (preV_zero s).symm, Lib.hid (nd_zero _), Lib.hid (Own.nil _ _ _ _), Below.refl _ _⟩
          case round =>
            obtain ⟨i, x, h, c, A, hi, rfl, rfl, hh8, hx, hnx, hown, hb⟩ := hrel
            by_cases hlt : i < s.size
            · obtain ⟨d, hdd⟩ : ∃ d, d = s[i].toNat - 48 := ⟨_, rfl⟩
              have hdig := HD.out i hlt
              unfold isDig at hdig
              have hd10 : d < 10 := by omega
              have hpre := preV_succ s i hlt
              rw [← hdd, ← hx.out] at hpre
              have w2 : IntKind.u8.wrap ((s[i].toNat : Int) - 48) = (d : Int) := by rw [show (s[i].toNat : Int) - 48 = ((d : Nat) : Int) by omega, wrap_u8]; omega
              have w3 : wrap64 (d : Int) = (d : Int) := IntWalk.wrap64_in _ (by omega)
              obtain ⟨y, hy⟩ : ∃ y, y = x * 10 + d := ⟨_, rfl⟩
              have hyv : y = preV s (i + 1) := by rw [hpre, hy, Nat.mul_comm]
              have hny : nd 256 y ≤ 49152 := by
                have h5 := dig_pre HD.out (i + 1) (by omega)
                rw [← hyv] at h5
                exact Nat.le_trans (nd_le (b := 256) (by omega) (Nat.lt_of_lt_of_le h5 (Nat.pow_le_pow_left (by omega) _))) (by omega)
              have hxy : h ≤ nd 256 y := by
                have h5 : x ≤ y := by rw [hy]; exact Nat.le_trans (Nat.le_mul_of_pos_right x (show 0 < 10 by decide)) (Nat.le_add_right _ _)
                rw [← hnx.out]; exact nd_mono (by decide) h5
              have HNY := Lib.hid hny
              have HXY := Lib.hid hxy
              have HYV := Lib.hid hyv
              have HY := Lib.hid hy
              have HI := Lib.hid hi
              have HO1 : Hid (Own wr w.heap.size 3 .i64 (.slice A h c) ((List.range h).map (tmF x y 0))) := Lib.hid (by rw [tmF_zero]; exact hown.out)
              clear hdd hdig hpre hy hyv hny hxy hown hi
              go_wp2_with fail
              go_loopw [5, 7, 8] (fun v m kk wr2 => ∃ (k q h' c' : Nat) (A' : Option Addr), kk = .int .i64 k ∧ m = .int .i64 q ∧ v = .slice A' h' c' ∧ k ≤ h' ∧ h' ≤ 49152 ∧ Hid (h ≤ h') ∧ Hid (h' ≤ nd 256 y) ∧ Hid (q = mca 256 x 10 d k) ∧ Hid (Own wr2 w.heap.size 3 .i64 (.slice A' h' c') ((List.range h').map (tmF x y k))) ∧ Below w.heap.size w wr2) (fun _ _ kk _ => 49152 - (intOf kk).toNat)
              case atStart => exact ⟨0, d, h, c, A, rfl, rfl, rfl, Nat.zero_le _, hh8, Lib.hid (Nat.le_refl _), HXY, Lib.hid (mca_zero _ _ _ _).symm, HO1, hb⟩
              case round =>
                obtain ⟨k, q, h', c', A', rfl, rfl, rfl, hk, hh', hhh, hhy, hq, hown', hb'⟩ := hrel
                by_cases hstop : ¬ k < h' ∧ q = 0
                · obtain ⟨hk1, rfl⟩ := hstop
                  obtain rfl : k = h' := by omega
                  have HN2 : Hid (nd 256 y = k) := Lib.hid (by
                    have h5 := tm_end (x := x) (d := d) (k := k) (by rw [hnx.out]; exact hhh.out) hq.out.symm
                    rw [← HY.out] at h5
                    exact Nat.le_antisymm h5 hhy.out)
                  have HO2 : Hid (Own wr w.heap.size 3 .i64 (.slice A' k c') (dl 256 y k)) := Lib.hid (by rw [← tmF_end x y k]; exact hown'.out)
                  clear hown' hk hk1
                  go_wp2_with fail
                  go_roundw
                  case rel => exact ⟨i + 1, y, k, c', A', by omega, by go_num, rfl, hh', HYV, HN2, HO2, hb'⟩
                  case measure => simp [intOf]; omega
                · obtain ⟨a, ha⟩ : ∃ a, a = dgt 256 x k := ⟨_, rfl⟩
                  obtain ⟨sm, hsm⟩ : ∃ sm, sm = q + 10 * a := ⟨_, rfl⟩
                  obtain ⟨r, hr⟩ : ∃ r, r = sm % 256 := ⟨_, rfl⟩
                  obtain ⟨e, he⟩ : ∃ e, e = sm / 256 := ⟨_, rfl⟩
                  obtain ⟨t1, t2, t3, t4, t5⟩ := tm_digit hd10 hq.out ha hsm hr he
                  rw [← HY.out] at t1
                  have hsI : (q : Int) + 10 * (a : Int) = (sm : Int) := by omega
                  have hrI : (sm : Int) % 256 = (r : Int) := by omega
                  have heI : (sm : Int).tdiv 256 = (e : Int) := by rw [Int.tdiv_eq_ediv_of_nonneg (by omega)]; omega
                  have hs8 : sm ≤ 3000 := by omega
                  have hr8 : r < 256 := by omega
                  have HT1 := Lib.hid t1
                  have HT2 := Lib.hid t2
                  have HA := Lib.hid ha
                  have hcase : k < h' ∨ (k = h' ∧ 0 < q) := by
                    rcases Nat.lt_or_ge k h' with c | c
                    · exact Or.inl c
                    · exact Or.inr ⟨by omega, Nat.pos_of_ne_zero (fun c2 => hstop ⟨by omega, c2⟩)⟩
                  clear t1 t2 hsm hr he ha hstop
                  rcases hcase with hkh | ⟨rfl, hq0⟩
                  · obtain ⟨g, cap, e1, hgB, hga, hcx, hfx⟩ := hown'.out.cell (j := k) (by simpa using hkh)
                    injection e1 with e1 e2 e3
                    subst e1 e3
                    have hcx2 : wr.cell? ⟨g, k, none⟩ = some (.int .i64 (a : Nat)) := by rw [hcx, HA.out]; simp [tmF_at]
                    have hne1 : ¬ k = h' := by omega
                    have hne2 : ((k : Int) == (h' : Int)) = false := by rw [beq_eq_false_iff_ne]; omega
                    have HO2 : Hid (Own (wr.setCell ⟨g, k, none⟩ (.int .i64 (r : Nat))) w.heap.size 3 .i64 (.slice (some ⟨g, 0, none⟩) h' c') ((List.range h').map (tmF x y (k + 1)))) := Lib.hid (by
                      rw [← tmF_step, ← HT1.out]; exact hown'.out.set_ k r)
                    have hb2 := hb'.setCell (p := ⟨g, k, none⟩) hgB (.int .i64 (r : Nat))
                    clear hcx hown' e2
                    go_wp2_with fail
                    go_roundw
                    case rel => exact ⟨k + 1, e, h', c', _, by go_num, rfl, rfl, by omega, hh', hhh, hhy, HT2, HO2, hb2⟩
                    case measure => simp [intOf]; omega
                  · have hny2 : k + 1 ≤ nd 256 y := by
                      have h5 := tm_more (x := x) (d := d) (k := k) (by rw [hnx.out]; exact hhh.out) (by rw [← hq.out]; omega)
                      rw [← HY.out] at h5; exact h5
                    have hk2 : k + 1 ≤ 49152 := Nat.le_trans hny2 HNY.out
                    have HNY2 := Lib.hid hny2
                    have hlen : Hid (((List.range k).map (tmF x y k)).length + 1 ≤ 17592186044416) := Lib.hid (by simp; omega)
                    have HAPP := Lib.hid (tmF_app (x := x) (y := y) (k := k) (by rw [hnx.out]; exact hhh.out))
                    have HOW := hown'
                    have HHH : Hid (h ≤ k + 1) := Lib.hid (Nat.le_trans hhh.out (Nat.le_succ _))
                    clear hny2 hown' hk
                    have hkk : k < k + 1 := Nat.lt_succ_self k
                    go_wp2_with (at_builtin; go_loud (refine wpList_app1 wr rfl (.tmp 65) (.tmp 66) _ rfl w.heap.size 3 3 i0 .i64 8 Tryz.underlying139 hi0 hz0 hj1 hj2 (by omega) _ ((List.range k).map (tmF x y k)) 0 rfl rfl HOW.out hlen.out hb'.size ?_); intro v5 w5 hown5 hb5 hfr5 hnw5; (rw [HAPP.out] at hown5); (obtain ⟨g, cap, rfl, hgB, hga, hcx, hfx⟩ := hown5.cell (j := k) (by simp)); (have hcx2 : w5.cell? ⟨g, k, none⟩ = some (.int .i64 (a : Nat)) := by rw [hcx, HA.out]; simp [tmF_at]); (have HO5 : Hid (Own w5 w.heap.size 3 .i64 (.slice (some ⟨g, 0, none⟩) (k + 1) cap) ((List.range (k + 1)).map (tmF x y k))) := Lib.hid (by have h9 := hown5; rw [List.length_map, List.length_range] at h9; exact h9)); (rw [List.length_map, List.length_range]); (have hbw5 := hb'.trans hb5); (clear hcx hown5 hfr5 hnw5 hb5))
                    have HO6 : Hid (Own (w5.setCell ⟨g, k, none⟩ (.int .i64 (r : Nat))) w.heap.size 3 .i64 (.slice (some ⟨g, 0, none⟩) (k + 1) cap) ((List.range (k + 1)).map (tmF x y (k + 1)))) := Lib.hid (by
                      rw [← tmF_step, ← HT1.out]; exact HO5.out.set_ k r)
                    have hb6 := hbw5.setCell (p := ⟨g, k, none⟩) hgB (.int .i64 (r : Nat))
                    go_roundw
                    case rel => exact ⟨k + 1, e, k + 1, cap, _, by go_num, rfl, rfl, Nat.le_refl _, hk2, HHH, HNY2, HT2, HO6, hb6⟩
                    case measure => simp [intOf]; omega
            · obtain rfl : i = s.size := by omega
              have hlx : Hid ((dl 256 x h).length ≤ 1000000000) := Lib.hid (by rw [dl_length]; omega)
              have HOF : Hid (of 256 (dl 256 x h) = x) := Lib.hid (by
                rw [of_dl, ← hnx.out]; exact Nat.mod_eq_of_lt (lt_nd (by omega)))
              have KE := Lib.hid (fun w => rEnded_c x w (by rw [hnx.out]; omega))
              have HXX := hx
              clear hx
              go_wp2_with fail
              refine (rMade_c _ _ _ _ (dl_lt256 x h) hlx.out hown.out).mono ?_
              rintro e w' ⟨rfl, hb2⟩
              rw [HOF.out]
              go_wp2_with fail
              refine (KE.out _).mono ?_
              rintro e w3 ⟨rfl, rfl⟩
              go_wp2_with fail
              go_ret2
              exact ⟨by rw [← HXX.out]; rfl, below_chain hb hb2⟩
end Go.Proofs.YtajcapliokblfaaGreatDoor
namespace Go.Proofs.YtajcapliokblfaaGreatDoor
open Go Go.RowKit Nt
section
variable [Env]
set_option maxRecDepth 100000 in
theorem opt_catS {t : TypeId} {A B r : AV} {s u : ByteArray} (ha : gval A = .string s) (hb : gval B = .string u) (hr : ground r = true) (hv : gval r = .string (s ++ u)) (hz : s.size + u.size ≤ 9223372036854775807) : OpT Tryz.prog [0, 0, t] [A, B] r :=
  opt_bin (op := .add) hr fun p q w => by
    rw [ha, hb, hv]
    go_simp
theorem opt_lenS {t : TypeId} {A r : AV} {s : ByteArray} (ha : gval A = .string s) (hr : ground r = true) (hv : gval r = .int .i64 (s.size : Int)) : OpT Tryz.prog [6, 0, t, 9] [A] r := by
  refine ⟨hr, fun o xs hk ρ hρ hx w => ?_⟩
  unfold keyOf at hk
  obtain ⟨dst, o, type, pos, after, guard⟩ := o
  simp only at hk
  split at hk
  case h_7 b args argTypes =>
    cases b
    case len =>
      have hk' : (6 :: 0 :: type :: argTypes.toList, args.toList) = ([6, 0, t, 9], xs) := Option.some.inj hk
      have h3 : args.toList = xs := (Prod.mk.inj hk').2
      have hxx : args.map ρ = #[.string s] := by
        apply Array.ext'
        rw [Array.toList_map, h3, hx]
        simp [ha]
      simp only [execOp, resolve, Deferred.ofValue, Sem.run_bind, Sem.run_pure, Result.andThen_ok, invoke, hxx]
      have ha2 : argTypes = #[9] := Array.ext' (List.cons.inj (List.cons.inj (List.cons.inj (Prod.mk.inj hk').1).2).2).2
      rw [hv]
      simp [builtin, Builtin.len_, go_sem, ha2, run_underlying Tryz.underlying9]
    all_goals first
      | (have hk' := (List.cons.inj (List.cons.inj (Prod.mk.inj (Option.some.inj hk)).1).2).1; exact absurd hk' (by decide))
      | cases hk
  all_goals first
    | (simp only [Option.some.injEq, Prod.mk.injEq, List.cons.injEq] at hk; have := hk.1.1; omega)
    | cases hk
end
theorem dec_sz {n : Nat} (h : fits n) : (decS n).size ≤ 40000 := by
  rw [decS_size]
  unfold dlen
  split
  · omega
  · refine Nat.le_trans (nd_le (k := E39) (by omega) ?_) (by rw [E39_eq]; omega)
    have h1 := lt_nd (b := 256) (n := n) (by omega)
    have h2 : 256 ^ nd 256 n ≤ 256 ^ E16 := Nat.pow_le_pow_right (by omega) (by rw [E16_eq]; exact h)
    exact Nat.lt_of_lt_of_le h1 (Nat.le_trans h2 big_ten)
def Rx.nul : Rx := ⟨false, ⟨#[]⟩, ⟨#[]⟩⟩
@[irreducible] def txR (g : Bool) (n d : Nat) : ByteArray := if d = 1 then (if g = true then ⟨#[45]⟩ ++ decS n else decS n) else (if g = true then ⟨#[45]⟩ ++ decS n else decS n) ++ (⟨#[47]⟩ ++ decS d)
theorem one_iff {d : Nat} : natS d = ⟨#[1]⟩ ↔ d = 1 := by rw [← natS_1r]; exact natS_inj
theorem tx_tt {g : Bool} {n d : Nat} (h : g = true) (k : natS d = ⟨#[1]⟩) : txR g n d = ⟨#[45]⟩ ++ decS n := by unfold txR; rw [if_pos (one_iff.1 k), if_pos h]
theorem tx_ft {g : Bool} {n d : Nat} (h : ¬ g = true) (k : natS d = ⟨#[1]⟩) : txR g n d = decS n := by unfold txR; rw [if_pos (one_iff.1 k), if_neg h]
theorem tx_tf {g : Bool} {n d : Nat} (h : g = true) (k : ¬ natS d = ⟨#[1]⟩) : txR g n d = (⟨#[45]⟩ ++ decS n) ++ (⟨#[47]⟩ ++ decS d) := by unfold txR; rw [if_neg (fun c => k (one_iff.2 c)), if_pos h]
theorem tx_ff {g : Bool} {n d : Nat} (h : ¬ g = true) (k : ¬ natS d = ⟨#[1]⟩) : txR g n d = decS n ++ (⟨#[47]⟩ ++ decS d) := by unfold txR; rw [if_neg (fun c => k (one_iff.2 c)), if_neg h]
theorem PNText_c (n : Nat) (w : World) (hf : fits n) : Calls Tryz.prog 96 #[.string (natS n)] w fun e w' => e = .returned (.tuple #[.string (decS n), .int .i64 0]) ∧ Below w.heap.size w w' := NText_any n w hf
theorem rText_any (n : Nat) (w : World) (hf : fits n) : Calls Tryz.prog 97 #[.string (natS n)] w fun e w' => e = .returned (.string (decS n)) ∧ Below w.heap.size w w' := by
  by_cases h0 : n = 0
  · subst h0; exact rText_zero w
  · exact rText_c n w hf h0
open Classical in
@[irreducible] noncomputable def rtS (s : ByteArray) : ByteArray := if Valid s then resS (preV s s.size) else ⟨#[]⟩
open Classical in
@[irreducible] noncomputable def rtE (s : ByteArray) : Int := if Valid s then resE (preV s s.size) else 22
theorem PNRead_c (s : ByteArray) (w : World) (hs : s.size ≤ 9223372036854775807) : Calls Tryz.prog 100 #[.string s] w fun e w' => e = .returned (.tuple #[.string (rtS s), .int .i64 (rtE s)]) ∧ Below w.heap.size w w' := by
  unfold rtS rtE
  by_cases h : Valid s
  · rw [if_pos h, if_pos h]; exact NRead_c s w hs h
  · rw [if_neg h, if_neg h]; exact NRead_no s w hs h
theorem headB_size (c : UInt8) (s : ByteArray) : (headB c s).size ≤ s.size := by
  unfold headB; split
  · rw [ByteArray.size_extract]; omega
  · exact Nat.le_refl _
theorem tailB_size (c : UInt8) (s : ByteArray) : (tailB c s).size ≤ s.size := by
  unfold tailB; split
  · rw [ByteArray.size_extract]; omega
  · exact Nat.zero_le _
theorem offB_size (c : UInt8) (s : ByteArray) : (offB c s).size ≤ s.size := by
  unfold offB; split
  · rw [ByteArray.size_extract]; omega
  · exact Nat.le_refl _
noncomputable def rdX (s : ByteArray) : Rx := ⟨begB 45 s, rtS (headB 47 (offB 45 s)), if hasB 47 (offB 45 s) = true then rtS (tailB 47 (offB 45 s)) else ⟨#[1]⟩⟩
def rdOk (s : ByteArray) : Prop := rtE (headB 47 (offB 45 s)) = 0 ∧ (hasB 47 (offB 45 s) = true → rtE (tailB 47 (offB 45 s)) = 0 ∧ ¬ rtS (tailB 47 (offB 45 s)) = ⟨#[1]⟩) ∧ mayR (rdX s) = true
theorem rdX_t {s : ByteArray} (h : hasB 47 (offB 45 s) = true) : rdX s = ⟨begB 45 s, rtS (headB 47 (offB 45 s)), rtS (tailB 47 (offB 45 s))⟩ := by unfold rdX; rw [if_pos h]
theorem rdX_f {s : ByteArray} (h : ¬ hasB 47 (offB 45 s) = true) : rdX s = ⟨begB 45 s, rtS (headB 47 (offB 45 s)), ⟨#[1]⟩⟩ := by unfold rdX; rw [if_neg h]
open Classical in
@[irreducible] noncomputable def rdR (s : ByteArray) : Rx := if rdOk s then rdX s else Rx.nul
open Classical in
@[irreducible] noncomputable def rdE (s : ByteArray) : Int := if rdOk s then 0 else 40
theorem rd_ok {s : ByteArray} (h : rdOk s) : rdR s = rdX s ∧ rdE s = 0 := by unfold rdR rdE; rw [if_pos h, if_pos h]; exact ⟨rfl, rfl⟩
theorem rd_no {s : ByteArray} (h : ¬ rdOk s) : rdR s = Rx.nul ∧ rdE s = 40 := by unfold rdR rdE; rw [if_neg h, if_neg h]; exact ⟨rfl, rfl⟩
theorem ret_rx {a b : Rx} {e f : Int} (h : a = b ∧ e = f) : Ending.returned (.tuple #[.agg #[.bool b.g, .string b.s, .string b.t], .int .i64 f]) = .returned (.tuple #[.agg #[.bool a.g, .string a.s, .string a.t], .int .i64 e]) := by rw [h.1, h.2]
@[reducible] def PText_t_f : FuncId := 43
@[reducible] def PText_t_a : List AV := [.agg [.lit (.bool true), .sym 0, .sym 1]]
@[reducible] noncomputable def PText_t_k (b1 : Bool) : Know := ⟨[([0, 0, 9], [.lit (.string ⟨#[45]⟩), .sym 2], .sym 4),
  ([0, 12, 22], [.sym 1, .lit (.string ⟨#[1]⟩)], .lit (.bool (!b1))),
  ([0, 0, 9], [.lit (.string ⟨#[47]⟩), .sym 3], .sym 5),
  ([0, 0, 9], [.sym 4, .sym 5], .sym 6)],
  [(18, [.agg [.lit (.bool true), .sym 0, .sym 1]], .lit (.bool true)),
  (96, [.sym 0], .tup [.sym 2, .lit (.int .i64 0)]),
  (96, [.sym 1], .tup [.sym 3, .lit (.int .i64 0)])]⟩
theorem PText_t_r1 : @comes (PText_t_k true) Tryz.prog glT 3000 PText_t_f PText_t_a = some (.tup [.sym 4, .lit (.int .i64 0)]) := by kernel_rfl
theorem PText_t_r2 : @comes (PText_t_k false) Tryz.prog glT 3000 PText_t_f PText_t_a = some (.tup [.sym 6, .lit (.int .i64 0)]) := by kernel_rfl
set_option maxRecDepth 100000 in
set_option maxHeartbeats 4000000 in
theorem PText_t (q : Rat) (w : World) (hG : Globs glT w) (h : qfits q) (hg : qG q = true) : Calls Tryz.prog 43 #[.agg #[.bool true, .string (natS (qN q)), .string (natS (qD q))]] w fun e w' => e = .returned (.tuple #[.string (txR (qG q) (qN q) (qD q)), .int .i64 0]) ∧ Below w.heap.size w w' := by
  obtain ⟨b1, i1⟩ := bex (natS (qD q) = ⟨#[1]⟩)
  letI : Env := mkEnv glT [.string (natS (qN q)), .string (natS (qD q)), .string (decS (qN q)), .string (decS (qD q)), .string ((⟨#[45]⟩) ++ (decS (qN q))), .string ((⟨#[47]⟩) ++ (decS (qD q))), .string (((⟨#[45]⟩) ++ (decS (qN q))) ++ ((⟨#[47]⟩) ++ (decS (qD q))))] rfl
  have hops : OpsT Tryz.prog (@Know.ops (PText_t_k b1)) := ⟨opt_catS rfl rfl rfl rfl (by have h1 := dec_sz h.1; have h2 := dec_sz h.2; have e1 : (ByteArray.mk #[45]).size = 1 := rfl; have e2 : (ByteArray.mk #[47]).size = 1 := rfl; (try simp only [ByteArray.size_append]); omega),
    optS_neq_i rfl rfl i1,
    opt_catS rfl rfl rfl rfl (by have h1 := dec_sz h.1; have h2 := dec_sz h.2; have e1 : (ByteArray.mk #[45]).size = 1 := rfl; have e2 : (ByteArray.mk #[47]).size = 1 := rfl; (try simp only [ByteArray.size_append]); omega),
    opt_catS rfl rfl rfl rfl (by have h1 := dec_sz h.1; have h2 := dec_sz h.2; have e1 : (ByteArray.mk #[45]).size = 1 := rfl; have e2 : (ByteArray.mk #[47]).size = 1 := rfl; (try simp only [ByteArray.size_append]); omega),
    trivial⟩
  have hcalls : CallsT Tryz.prog (@Know.calls (PText_t_k b1)) := ⟨callt rfl rfl fun w hG => (by have hh := PMay_yes q w h; unfold qv at hh; rwa [hg] at hh),
    callt rfl rfl fun w hG => PNText_c (qN q) w h.1,
    callt rfl rfl fun w hG => PNText_c (qD q) w h.2,
    trivial⟩
  have fin : ∀ v, @comes (PText_t_k b1) Tryz.prog glT 3000 PText_t_f PText_t_a = some v → ground v = true → Ending.returned (gval v) = .returned (.tuple #[.string (txR (qG q) (qN q) (qD q)), .int .i64 0]) → Calls Tryz.prog 43 #[.agg #[.bool true, .string (natS (qN q)), .string (natS (qD q))]] w fun e w' => e = .returned (.tuple #[.string (txR (qG q) (qN q) (qD q)), .int .i64 0]) ∧ Below w.heap.size w w' := fun v h1 h2 h3 => (@sym_ok _ (PText_t_k b1) _ (@KnowOk.of _ (PText_t_k b1) _ hops hcalls) (by kernel_rfl) _ _ _ _ h1 rfl h2 _ hG).mono fun e w' h => ⟨h.1.trans h3, h.2⟩
  clear hops hcalls
  cases b1 with
  | true =>
    have h1 : natS (qD q) = ⟨#[1]⟩ := i1.1 rfl
    exact fin _ (PText_t_r1) rfl (show Ending.returned (.tuple #[.string ((⟨#[45]⟩) ++ (decS (qN q))), .int .i64 0]) = .returned (.tuple #[.string (txR (qG q) (qN q) (qD q)), .int .i64 0]) from (by rw [tx_tt hg h1]))
  | false =>
    have h1 : ¬ (natS (qD q) = ⟨#[1]⟩) := fun c => Bool.false_ne_true (i1.2 c)
    exact fin _ (PText_t_r2) rfl (show Ending.returned (.tuple #[.string (((⟨#[45]⟩) ++ (decS (qN q))) ++ ((⟨#[47]⟩) ++ (decS (qD q)))), .int .i64 0]) = .returned (.tuple #[.string (txR (qG q) (qN q) (qD q)), .int .i64 0]) from (by rw [tx_tf hg h1]))
@[reducible] def rText4_t_f : FuncId := 44
@[reducible] def rText4_t_a : List AV := [.agg [.lit (.bool true), .sym 0, .sym 1]]
@[reducible] noncomputable def rText4_t_k (b1 : Bool) : Know := ⟨[([0, 0, 9], [.lit (.string ⟨#[45]⟩), .sym 2], .sym 4),
  ([0, 12, 22], [.sym 1, .lit (.string ⟨#[1]⟩)], .lit (.bool (!b1))),
  ([0, 0, 9], [.sym 4, .lit (.string ⟨#[47]⟩)], .sym 5),
  ([0, 0, 9], [.sym 5, .sym 3], .sym 6)],
  [(97, [.sym 0], .sym 2),
  (97, [.sym 1], .sym 3)]⟩
theorem rText4_t_r1 : @comes (rText4_t_k true) Tryz.prog glT 3000 rText4_t_f rText4_t_a = some (.sym 4) := by kernel_rfl
theorem rText4_t_r2 : @comes (rText4_t_k false) Tryz.prog glT 3000 rText4_t_f rText4_t_a = some (.sym 6) := by kernel_rfl
set_option maxRecDepth 100000 in
set_option maxHeartbeats 4000000 in
theorem rText4_t (q : Rat) (w : World) (hG : Globs glT w) (h : qfits q) (hg : qG q = true) : Calls Tryz.prog 44 #[.agg #[.bool true, .string (natS (qN q)), .string (natS (qD q))]] w fun e w' => e = .returned (.string (txR (qG q) (qN q) (qD q))) ∧ Below w.heap.size w w' := by
  obtain ⟨b1, i1⟩ := bex (natS (qD q) = ⟨#[1]⟩)
  letI : Env := mkEnv glT [.string (natS (qN q)), .string (natS (qD q)), .string (decS (qN q)), .string (decS (qD q)), .string ((⟨#[45]⟩) ++ (decS (qN q))), .string (((⟨#[45]⟩) ++ (decS (qN q))) ++ (⟨#[47]⟩)), .string ((((⟨#[45]⟩) ++ (decS (qN q))) ++ (⟨#[47]⟩)) ++ (decS (qD q)))] rfl
  have hops : OpsT Tryz.prog (@Know.ops (rText4_t_k b1)) := ⟨opt_catS rfl rfl rfl rfl (by have h1 := dec_sz h.1; have h2 := dec_sz h.2; have e1 : (ByteArray.mk #[45]).size = 1 := rfl; have e2 : (ByteArray.mk #[47]).size = 1 := rfl; (try simp only [ByteArray.size_append]); omega),
    optS_neq_i rfl rfl i1,
    opt_catS rfl rfl rfl rfl (by have h1 := dec_sz h.1; have h2 := dec_sz h.2; have e1 : (ByteArray.mk #[45]).size = 1 := rfl; have e2 : (ByteArray.mk #[47]).size = 1 := rfl; (try simp only [ByteArray.size_append]); omega),
    opt_catS rfl rfl rfl rfl (by have h1 := dec_sz h.1; have h2 := dec_sz h.2; have e1 : (ByteArray.mk #[45]).size = 1 := rfl; have e2 : (ByteArray.mk #[47]).size = 1 := rfl; (try simp only [ByteArray.size_append]); omega),
    trivial⟩
  have hcalls : CallsT Tryz.prog (@Know.calls (rText4_t_k b1)) := ⟨callt rfl rfl fun w hG => rText_any (qN q) w h.1,
    callt rfl rfl fun w hG => rText_any (qD q) w h.2,
    trivial⟩
  have fin : ∀ v, @comes (rText4_t_k b1) Tryz.prog glT 3000 rText4_t_f rText4_t_a = some v → ground v = true → Ending.returned (gval v) = .returned (.string (txR (qG q) (qN q) (qD q))) → Calls Tryz.prog 44 #[.agg #[.bool true, .string (natS (qN q)), .string (natS (qD q))]] w fun e w' => e = .returned (.string (txR (qG q) (qN q) (qD q))) ∧ Below w.heap.size w w' := fun v h1 h2 h3 => (@sym_ok _ (rText4_t_k b1) _ (@KnowOk.of _ (rText4_t_k b1) _ hops hcalls) (by kernel_rfl) _ _ _ _ h1 rfl h2 _ hG).mono fun e w' h => ⟨h.1.trans h3, h.2⟩
  clear hops hcalls
  cases b1 with
  | true =>
    have h1 : natS (qD q) = ⟨#[1]⟩ := i1.1 rfl
    exact fin _ (rText4_t_r1) rfl (show Ending.returned (.string ((⟨#[45]⟩) ++ (decS (qN q)))) = .returned (.string (txR (qG q) (qN q) (qD q))) from (by rw [tx_tt hg h1]))
  | false =>
    have h1 : ¬ (natS (qD q) = ⟨#[1]⟩) := fun c => Bool.false_ne_true (i1.2 c)
    exact fin _ (rText4_t_r2) rfl (show Ending.returned (.string ((((⟨#[45]⟩) ++ (decS (qN q))) ++ (⟨#[47]⟩)) ++ (decS (qD q)))) = .returned (.string (txR (qG q) (qN q) (qD q))) from (by rw [tx_tf hg h1, ByteArray.append_assoc]))
@[reducible] def PText_f_f : FuncId := 43
@[reducible] def PText_f_a : List AV := [.agg [.lit (.bool false), .sym 0, .sym 1]]
@[reducible] noncomputable def PText_f_k (b1 : Bool) : Know := ⟨[([0, 12, 22], [.sym 1, .lit (.string ⟨#[1]⟩)], .lit (.bool (!b1))),
  ([0, 0, 9], [.lit (.string ⟨#[47]⟩), .sym 3], .sym 4),
  ([0, 0, 9], [.sym 2, .sym 4], .sym 5)],
  [(18, [.agg [.lit (.bool false), .sym 0, .sym 1]], .lit (.bool true)),
  (96, [.sym 0], .tup [.sym 2, .lit (.int .i64 0)]),
  (96, [.sym 1], .tup [.sym 3, .lit (.int .i64 0)])]⟩
theorem PText_f_r1 : @comes (PText_f_k true) Tryz.prog glT 3000 PText_f_f PText_f_a = some (.tup [.sym 2, .lit (.int .i64 0)]) := by kernel_rfl
theorem PText_f_r2 : @comes (PText_f_k false) Tryz.prog glT 3000 PText_f_f PText_f_a = some (.tup [.sym 5, .lit (.int .i64 0)]) := by kernel_rfl
set_option maxRecDepth 100000 in
set_option maxHeartbeats 4000000 in
theorem PText_f (q : Rat) (w : World) (hG : Globs glT w) (h : qfits q) (hg : qG q = false) : Calls Tryz.prog 43 #[.agg #[.bool false, .string (natS (qN q)), .string (natS (qD q))]] w fun e w' => e = .returned (.tuple #[.string (txR (qG q) (qN q) (qD q)), .int .i64 0]) ∧ Below w.heap.size w w' := by
  obtain ⟨b1, i1⟩ := bex (natS (qD q) = ⟨#[1]⟩)
  letI : Env := mkEnv glT [.string (natS (qN q)), .string (natS (qD q)), .string (decS (qN q)), .string (decS (qD q)), .string ((⟨#[47]⟩) ++ (decS (qD q))), .string ((decS (qN q)) ++ ((⟨#[47]⟩) ++ (decS (qD q))))] rfl
  have hops : OpsT Tryz.prog (@Know.ops (PText_f_k b1)) := ⟨optS_neq_i rfl rfl i1,
    opt_catS rfl rfl rfl rfl (by have h1 := dec_sz h.1; have h2 := dec_sz h.2; have e1 : (ByteArray.mk #[45]).size = 1 := rfl; have e2 : (ByteArray.mk #[47]).size = 1 := rfl; (try simp only [ByteArray.size_append]); omega),
    opt_catS rfl rfl rfl rfl (by have h1 := dec_sz h.1; have h2 := dec_sz h.2; have e1 : (ByteArray.mk #[45]).size = 1 := rfl; have e2 : (ByteArray.mk #[47]).size = 1 := rfl; (try simp only [ByteArray.size_append]); omega),
    trivial⟩
  have hcalls : CallsT Tryz.prog (@Know.calls (PText_f_k b1)) := ⟨callt rfl rfl fun w hG => (by have hh := PMay_yes q w h; unfold qv at hh; rwa [hg] at hh),
    callt rfl rfl fun w hG => PNText_c (qN q) w h.1,
    callt rfl rfl fun w hG => PNText_c (qD q) w h.2,
    trivial⟩
  have fin : ∀ v, @comes (PText_f_k b1) Tryz.prog glT 3000 PText_f_f PText_f_a = some v → ground v = true → Ending.returned (gval v) = .returned (.tuple #[.string (txR (qG q) (qN q) (qD q)), .int .i64 0]) → Calls Tryz.prog 43 #[.agg #[.bool false, .string (natS (qN q)), .string (natS (qD q))]] w fun e w' => e = .returned (.tuple #[.string (txR (qG q) (qN q) (qD q)), .int .i64 0]) ∧ Below w.heap.size w w' := fun v h1 h2 h3 => (@sym_ok _ (PText_f_k b1) _ (@KnowOk.of _ (PText_f_k b1) _ hops hcalls) (by kernel_rfl) _ _ _ _ h1 rfl h2 _ hG).mono fun e w' h => ⟨h.1.trans h3, h.2⟩
  clear hops hcalls
  cases b1 with
  | true =>
    have h1 : natS (qD q) = ⟨#[1]⟩ := i1.1 rfl
    exact fin _ (PText_f_r1) rfl (show Ending.returned (.tuple #[.string (decS (qN q)), .int .i64 0]) = .returned (.tuple #[.string (txR (qG q) (qN q) (qD q)), .int .i64 0]) from (by rw [tx_ft (by rw [hg]; exact Bool.false_ne_true) h1]))
  | false =>
    have h1 : ¬ (natS (qD q) = ⟨#[1]⟩) := fun c => Bool.false_ne_true (i1.2 c)
    exact fin _ (PText_f_r2) rfl (show Ending.returned (.tuple #[.string ((decS (qN q)) ++ ((⟨#[47]⟩) ++ (decS (qD q)))), .int .i64 0]) = .returned (.tuple #[.string (txR (qG q) (qN q) (qD q)), .int .i64 0]) from (by rw [tx_ff (by rw [hg]; exact Bool.false_ne_true) h1]))
@[reducible] def rText4_f_f : FuncId := 44
@[reducible] def rText4_f_a : List AV := [.agg [.lit (.bool false), .sym 0, .sym 1]]
@[reducible] noncomputable def rText4_f_k (b1 : Bool) : Know := ⟨[([0, 12, 22], [.sym 1, .lit (.string ⟨#[1]⟩)], .lit (.bool (!b1))),
  ([0, 0, 9], [.sym 2, .lit (.string ⟨#[47]⟩)], .sym 4),
  ([0, 0, 9], [.sym 4, .sym 3], .sym 5)],
  [(97, [.sym 0], .sym 2),
  (97, [.sym 1], .sym 3)]⟩
theorem rText4_f_r1 : @comes (rText4_f_k true) Tryz.prog glT 3000 rText4_f_f rText4_f_a = some (.sym 2) := by kernel_rfl
theorem rText4_f_r2 : @comes (rText4_f_k false) Tryz.prog glT 3000 rText4_f_f rText4_f_a = some (.sym 5) := by kernel_rfl
set_option maxRecDepth 100000 in
set_option maxHeartbeats 4000000 in
theorem rText4_f (q : Rat) (w : World) (hG : Globs glT w) (h : qfits q) (hg : qG q = false) : Calls Tryz.prog 44 #[.agg #[.bool false, .string (natS (qN q)), .string (natS (qD q))]] w fun e w' => e = .returned (.string (txR (qG q) (qN q) (qD q))) ∧ Below w.heap.size w w' := by
  obtain ⟨b1, i1⟩ := bex (natS (qD q) = ⟨#[1]⟩)
  letI : Env := mkEnv glT [.string (natS (qN q)), .string (natS (qD q)), .string (decS (qN q)), .string (decS (qD q)), .string ((decS (qN q)) ++ (⟨#[47]⟩)), .string (((decS (qN q)) ++ (⟨#[47]⟩)) ++ (decS (qD q)))] rfl
  have hops : OpsT Tryz.prog (@Know.ops (rText4_f_k b1)) := ⟨optS_neq_i rfl rfl i1,
    opt_catS rfl rfl rfl rfl (by have h1 := dec_sz h.1; have h2 := dec_sz h.2; have e1 : (ByteArray.mk #[45]).size = 1 := rfl; have e2 : (ByteArray.mk #[47]).size = 1 := rfl; (try simp only [ByteArray.size_append]); omega),
    opt_catS rfl rfl rfl rfl (by have h1 := dec_sz h.1; have h2 := dec_sz h.2; have e1 : (ByteArray.mk #[45]).size = 1 := rfl; have e2 : (ByteArray.mk #[47]).size = 1 := rfl; (try simp only [ByteArray.size_append]); omega),
    trivial⟩
  have hcalls : CallsT Tryz.prog (@Know.calls (rText4_f_k b1)) := ⟨callt rfl rfl fun w hG => rText_any (qN q) w h.1,
    callt rfl rfl fun w hG => rText_any (qD q) w h.2,
    trivial⟩
  have fin : ∀ v, @comes (rText4_f_k b1) Tryz.prog glT 3000 rText4_f_f rText4_f_a = some v → ground v = true → Ending.returned (gval v) = .returned (.string (txR (qG q) (qN q) (qD q))) → Calls Tryz.prog 44 #[.agg #[.bool false, .string (natS (qN q)), .string (natS (qD q))]] w fun e w' => e = .returned (.string (txR (qG q) (qN q) (qD q))) ∧ Below w.heap.size w w' := fun v h1 h2 h3 => (@sym_ok _ (rText4_f_k b1) _ (@KnowOk.of _ (rText4_f_k b1) _ hops hcalls) (by kernel_rfl) _ _ _ _ h1 rfl h2 _ hG).mono fun e w' h => ⟨h.1.trans h3, h.2⟩
  clear hops hcalls
  cases b1 with
  | true =>
    have h1 : natS (qD q) = ⟨#[1]⟩ := i1.1 rfl
    exact fin _ (rText4_f_r1) rfl (show Ending.returned (.string (decS (qN q))) = .returned (.string (txR (qG q) (qN q) (qD q))) from (by rw [tx_ft (by rw [hg]; exact Bool.false_ne_true) h1]))
  | false =>
    have h1 : ¬ (natS (qD q) = ⟨#[1]⟩) := fun c => Bool.false_ne_true (i1.2 c)
    exact fin _ (rText4_f_r2) rfl (show Ending.returned (.string (((decS (qN q)) ++ (⟨#[47]⟩)) ++ (decS (qD q)))) = .returned (.string (txR (qG q) (qN q) (qD q))) from (by rw [tx_ff (by rw [hg]; exact Bool.false_ne_true) h1, ByteArray.append_assoc]))
theorem PText_c (q : Rat) (w : World) (hG : Globs glT w) (h : qfits q) : Calls Tryz.prog 43 #[qv q] w fun e w' => e = .returned (.tuple #[.string (txR (qG q) (qN q) (qD q)), .int .i64 0]) ∧ Below w.heap.size w w' := by
  cases hg : qG q
  · have := PText_f q w hG h hg; unfold qv; rw [hg] at this ⊢; exact this
  · have := PText_t q w hG h hg; unfold qv; rw [hg] at this ⊢; exact this
theorem rText4_c (q : Rat) (w : World) (hG : Globs glT w) (h : qfits q) : Calls Tryz.prog 44 #[qv q] w fun e w' => e = .returned (.string (txR (qG q) (qN q) (qD q))) ∧ Below w.heap.size w w' := by
  cases hg : qG q
  · have := rText4_f q w hG h hg; unfold qv; rw [hg] at this ⊢; exact this
  · have := rText4_t q w hG h hg; unfold qv; rw [hg] at this ⊢; exact this
@[reducible] def PText_no_f : FuncId := 43
@[reducible] def PText_no_a : List AV := [.agg [.sym 0, .sym 1, .sym 2]]
@[reducible] noncomputable def PText_no_k : Know := ⟨[],
  [(18, [.agg [.sym 0, .sym 1, .sym 2]], .lit (.bool false))]⟩
theorem PText_no_r1 : @comes PText_no_k Tryz.prog glT 3000 PText_no_f PText_no_a = some (.lit (.tuple #[.string ⟨#[]⟩, .int .i64 2])) := by kernel_rfl
set_option maxRecDepth 100000 in
set_option maxHeartbeats 4000000 in
theorem PText_no (a : Rx) (w : World) (hG : Globs glT w) (h : a.No) : Calls Tryz.prog 43 #[.agg #[.bool a.g, .string a.s, .string a.t]] w fun e w' => e = .returned (.tuple #[.string ⟨#[]⟩, .int .i64 2]) ∧ Below w.heap.size w w' := by
  letI : Env := mkEnv glT [.bool a.g, .string a.s, .string a.t] rfl
  have hops : OpsT Tryz.prog (@Know.ops PText_no_k) := trivial
  have hcalls : CallsT Tryz.prog (@Know.calls PText_no_k) := ⟨callt rfl rfl fun w hG => PMay_no a w h,
    trivial⟩
  have fin : ∀ v, @comes PText_no_k Tryz.prog glT 3000 PText_no_f PText_no_a = some v → ground v = true → Ending.returned (gval v) = .returned (.tuple #[.string ⟨#[]⟩, .int .i64 2]) → Calls Tryz.prog 43 #[.agg #[.bool a.g, .string a.s, .string a.t]] w fun e w' => e = .returned (.tuple #[.string ⟨#[]⟩, .int .i64 2]) ∧ Below w.heap.size w w' := fun v h1 h2 h3 => (@sym_ok _ PText_no_k _ (@KnowOk.of _ PText_no_k _ hops hcalls) (by kernel_rfl) _ _ _ _ h1 rfl h2 _ hG).mono fun e w' h => ⟨h.1.trans h3, h.2⟩
  clear hops hcalls
  exact fin _ (PText_no_r1) rfl rfl
@[reducible] def PRead_c_f : FuncId := 45
@[reducible] def PRead_c_a : List AV := [.sym 0]
@[reducible] noncomputable def PRead_c_k (b1 b2 b3 b4 b5 b6 b7 : Bool) : Know := ⟨[([6, 0, 3, 9], [.sym 0], .sym 1),
  ([0, 15, 3], [.sym 1, .lit (.int .i64 80000)], .lit (.bool b1)),
  ([0, 12, 30], [.sym 7, .lit (.int .i64 0)], .lit (.bool (!b3))),
  ([0, 12, 30], [.sym 9, .lit (.int .i64 0)], .lit (.bool (!b4))),
  ([0, 11, 22], [.sym 8, .lit (.string ⟨#[1]⟩)], .lit (.bool b5))],
  [(98, [.sym 0, .lit (.string ⟨#[45]⟩)], .tup [.sym 2, .sym 3]),
  (99, [.sym 2, .lit (.string ⟨#[47]⟩)], .tup [.sym 4, .sym 5, .lit (.bool b2)]),
  (100, [.sym 4], .tup [.sym 6, .sym 7]),
  (100, [.sym 5], .tup [.sym 8, .sym 9]),
  (18, [.agg [.sym 3, .sym 6, .sym 8]], .lit (.bool b6)),
  (18, [.agg [.sym 3, .sym 6, .lit (.string ⟨#[1]⟩)]], .lit (.bool b7))]⟩
theorem PRead_c_r1 (b6 b7 : Bool) : @comes (PRead_c_k false true true true true b6 b7) Tryz.prog glT 3000 PRead_c_f PRead_c_a = some (.lit (.tuple #[.agg #[.bool false, .string ⟨#[]⟩, .string ⟨#[]⟩], .int .i64 40])) := by kernel_rfl
theorem PRead_c_r2 (b7 : Bool) : @comes (PRead_c_k false true true true false true b7) Tryz.prog glT 3000 PRead_c_f PRead_c_a = some (.tup [.agg [.sym 3, .sym 6, .sym 8], .lit (.int .i64 0)]) := by kernel_rfl
theorem PRead_c_r3 (b7 : Bool) : @comes (PRead_c_k false true true true false false b7) Tryz.prog glT 3000 PRead_c_f PRead_c_a = some (.lit (.tuple #[.agg #[.bool false, .string ⟨#[]⟩, .string ⟨#[]⟩], .int .i64 40])) := by kernel_rfl
theorem PRead_c_r4 (b5 b6 b7 : Bool) : @comes (PRead_c_k false true true false b5 b6 b7) Tryz.prog glT 3000 PRead_c_f PRead_c_a = some (.lit (.tuple #[.agg #[.bool false, .string ⟨#[]⟩, .string ⟨#[]⟩], .int .i64 40])) := by kernel_rfl
theorem PRead_c_r5 (b4 b5 b6 b7 : Bool) : @comes (PRead_c_k false true false b4 b5 b6 b7) Tryz.prog glT 3000 PRead_c_f PRead_c_a = some (.lit (.tuple #[.agg #[.bool false, .string ⟨#[]⟩, .string ⟨#[]⟩], .int .i64 40])) := by kernel_rfl
theorem PRead_c_r6 (b4 b5 b6 : Bool) : @comes (PRead_c_k false false true b4 b5 b6 true) Tryz.prog glT 3000 PRead_c_f PRead_c_a = some (.tup [.agg [.sym 3, .sym 6, .lit (.string ⟨#[1]⟩)], .lit (.int .i64 0)]) := by kernel_rfl
theorem PRead_c_r7 (b4 b5 b6 : Bool) : @comes (PRead_c_k false false true b4 b5 b6 false) Tryz.prog glT 3000 PRead_c_f PRead_c_a = some (.lit (.tuple #[.agg #[.bool false, .string ⟨#[]⟩, .string ⟨#[]⟩], .int .i64 40])) := by kernel_rfl
theorem PRead_c_r8 (b4 b5 b6 b7 : Bool) : @comes (PRead_c_k false false false b4 b5 b6 b7) Tryz.prog glT 3000 PRead_c_f PRead_c_a = some (.lit (.tuple #[.agg #[.bool false, .string ⟨#[]⟩, .string ⟨#[]⟩], .int .i64 40])) := by kernel_rfl
set_option maxRecDepth 100000 in
set_option maxHeartbeats 4000000 in
theorem PRead_c (s : ByteArray) (w : World) (hG : Globs glT w) (hl : s.size ≤ 80000) (hz : s.size ≤ 9223372036854775807) : Calls Tryz.prog 45 #[.string (s)] w fun e w' => e = .returned (.tuple #[.agg #[.bool (rdR s).g, .string (rdR s).s, .string (rdR s).t], .int .i64 (rdE s)]) ∧ Below w.heap.size w w' := by
  obtain ⟨b1, i1⟩ := bex ((s.size : Int) > 80000)
  obtain ⟨b2, i2⟩ := bex (hasB 47 (offB 45 s) = true)
  obtain ⟨b3, i3⟩ := bex (rtE (headB 47 (offB 45 s)) = 0)
  obtain ⟨b4, i4⟩ := bex (rtE (tailB 47 (offB 45 s)) = 0)
  obtain ⟨b5, i5⟩ := bex (rtS (tailB 47 (offB 45 s)) = ⟨#[1]⟩)
  obtain ⟨b6, i6⟩ := bex (mayR (⟨(begB 45 s), (rtS (headB 47 (offB 45 s))), (rtS (tailB 47 (offB 45 s)))⟩ : Rx) = true)
  obtain ⟨b7, i7⟩ := bex (mayR (⟨(begB 45 s), (rtS (headB 47 (offB 45 s))), ⟨#[1]⟩⟩ : Rx) = true)
  letI : Env := mkEnv glT [.string (s), .int .i64 (s.size : Int), .string (offB 45 s), .bool (begB 45 s), .string (headB 47 (offB 45 s)), .string (tailB 47 (offB 45 s)), .string (rtS (headB 47 (offB 45 s))), .int .i64 (rtE (headB 47 (offB 45 s))), .string (rtS (tailB 47 (offB 45 s))), .int .i64 (rtE (tailB 47 (offB 45 s)))] rfl
  have hops : OpsT Tryz.prog (@Know.ops (PRead_c_k b1 b2 b3 b4 b5 b6 b7)) := ⟨opt_lenS rfl rfl rfl,
    opt_gtr_i rfl rfl i1,
    opt_neq_i rfl rfl i3,
    opt_neq_i rfl rfl i4,
    optS_eql_i rfl rfl i5,
    trivial⟩
  have hcalls : CallsT Tryz.prog (@Know.calls (PRead_c_k b1 b2 b3 b4 b5 b6 b7)) := ⟨callt rfl rfl fun w hG => PCutPrefix_c 45 s w,
    callt rfl rfl fun w hG => (by have hh := PCut_c 47 (offB 45 s) w (Nat.le_trans (offB_size 45 s) hz); rwa [← show _ = hasB 47 (offB 45 s) from Bool.eq_iff_iff.2 i2] at hh),
    callt rfl rfl fun w hG => PNRead_c (headB 47 (offB 45 s)) w (Nat.le_trans (headB_size 47 _) (Nat.le_trans (offB_size 45 s) hz)),
    callt rfl rfl fun w hG => PNRead_c (tailB 47 (offB 45 s)) w (Nat.le_trans (tailB_size 47 _) (Nat.le_trans (offB_size 45 s) hz)),
    callt rfl rfl fun w hG => (by have hh := PMay_any (⟨(begB 45 s), (rtS (headB 47 (offB 45 s))), (rtS (tailB 47 (offB 45 s)))⟩ : Rx) w; rwa [← show _ = mayR (⟨(begB 45 s), (rtS (headB 47 (offB 45 s))), (rtS (tailB 47 (offB 45 s)))⟩ : Rx) from Bool.eq_iff_iff.2 i6] at hh),
    callt rfl rfl fun w hG => (by have hh := PMay_any (⟨(begB 45 s), (rtS (headB 47 (offB 45 s))), ⟨#[1]⟩⟩ : Rx) w; rwa [← show _ = mayR (⟨(begB 45 s), (rtS (headB 47 (offB 45 s))), ⟨#[1]⟩⟩ : Rx) from Bool.eq_iff_iff.2 i7] at hh),
    trivial⟩
  have fin : ∀ v, @comes (PRead_c_k b1 b2 b3 b4 b5 b6 b7) Tryz.prog glT 3000 PRead_c_f PRead_c_a = some v → ground v = true → Ending.returned (gval v) = .returned (.tuple #[.agg #[.bool (rdR s).g, .string (rdR s).s, .string (rdR s).t], .int .i64 (rdE s)]) → Calls Tryz.prog 45 #[.string (s)] w fun e w' => e = .returned (.tuple #[.agg #[.bool (rdR s).g, .string (rdR s).s, .string (rdR s).t], .int .i64 (rdE s)]) ∧ Below w.heap.size w w' := fun v h1 h2 h3 => (@sym_ok _ (PRead_c_k b1 b2 b3 b4 b5 b6 b7) _ (@KnowOk.of _ (PRead_c_k b1 b2 b3 b4 b5 b6 b7) _ hops hcalls) (by kernel_rfl) _ _ _ _ h1 rfl h2 _ hG).mono fun e w' h => ⟨h.1.trans h3, h.2⟩
  clear hops hcalls
  cases b1 with
  | true =>
    exact absurd (i1.1 rfl) ((by omega))
  | false =>
    have h1 : ¬ ((s.size : Int) > 80000) := fun c => Bool.false_ne_true (i1.2 c)
    cases b2 with
    | true =>
      have h2 : hasB 47 (offB 45 s) = true := i2.1 rfl
      cases b3 with
      | true =>
        have h3 : rtE (headB 47 (offB 45 s)) = 0 := i3.1 rfl
        cases b4 with
        | true =>
          have h4 : rtE (tailB 47 (offB 45 s)) = 0 := i4.1 rfl
          cases b5 with
          | true =>
            have h5 : rtS (tailB 47 (offB 45 s)) = ⟨#[1]⟩ := i5.1 rfl
            exact fin _ (PRead_c_r1 b6 b7) rfl (show Ending.returned (.tuple #[.agg #[.bool false, .string ⟨#[]⟩, .string ⟨#[]⟩], .int .i64 40]) = .returned (.tuple #[.agg #[.bool (rdR s).g, .string (rdR s).s, .string (rdR s).t], .int .i64 (rdE s)]) from (ret_rx (rd_no (fun c => (c.2.1 h2).2 h5))))
          | false =>
            have h5 : ¬ (rtS (tailB 47 (offB 45 s)) = ⟨#[1]⟩) := fun c => Bool.false_ne_true (i5.2 c)
            cases b6 with
            | true =>
              have h6 : mayR (⟨(begB 45 s), (rtS (headB 47 (offB 45 s))), (rtS (tailB 47 (offB 45 s)))⟩ : Rx) = true := i6.1 rfl
              exact fin _ (PRead_c_r2 b7) rfl (show Ending.returned (.tuple #[.agg #[.bool (begB 45 s), .string (rtS (headB 47 (offB 45 s))), .string (rtS (tailB 47 (offB 45 s)))], .int .i64 0]) = .returned (.tuple #[.agg #[.bool (rdR s).g, .string (rdR s).s, .string (rdR s).t], .int .i64 (rdE s)]) from (ret_rx ⟨(rd_ok ⟨h3, (fun _ => ⟨h4, h5⟩), by rw [rdX_t h2]; exact h6⟩).1.trans (rdX_t h2), (rd_ok ⟨h3, (fun _ => ⟨h4, h5⟩), by rw [rdX_t h2]; exact h6⟩).2⟩))
            | false =>
              have h6 : ¬ (mayR (⟨(begB 45 s), (rtS (headB 47 (offB 45 s))), (rtS (tailB 47 (offB 45 s)))⟩ : Rx) = true) := fun c => Bool.false_ne_true (i6.2 c)
              exact fin _ (PRead_c_r3 b7) rfl (show Ending.returned (.tuple #[.agg #[.bool false, .string ⟨#[]⟩, .string ⟨#[]⟩], .int .i64 40]) = .returned (.tuple #[.agg #[.bool (rdR s).g, .string (rdR s).s, .string (rdR s).t], .int .i64 (rdE s)]) from (ret_rx (rd_no (fun c => h6 (by have hh := c.2.2; rwa [rdX_t h2] at hh)))))
        | false =>
          have h4 : ¬ (rtE (tailB 47 (offB 45 s)) = 0) := fun c => Bool.false_ne_true (i4.2 c)
          exact fin _ (PRead_c_r4 b5 b6 b7) rfl (show Ending.returned (.tuple #[.agg #[.bool false, .string ⟨#[]⟩, .string ⟨#[]⟩], .int .i64 40]) = .returned (.tuple #[.agg #[.bool (rdR s).g, .string (rdR s).s, .string (rdR s).t], .int .i64 (rdE s)]) from (ret_rx (rd_no (fun c => h4 (c.2.1 h2).1))))
      | false =>
        have h3 : ¬ (rtE (headB 47 (offB 45 s)) = 0) := fun c => Bool.false_ne_true (i3.2 c)
        exact fin _ (PRead_c_r5 b4 b5 b6 b7) rfl (show Ending.returned (.tuple #[.agg #[.bool false, .string ⟨#[]⟩, .string ⟨#[]⟩], .int .i64 40]) = .returned (.tuple #[.agg #[.bool (rdR s).g, .string (rdR s).s, .string (rdR s).t], .int .i64 (rdE s)]) from (ret_rx (rd_no (fun c => h3 c.1))))
    | false =>
      have h2 : ¬ (hasB 47 (offB 45 s) = true) := fun c => Bool.false_ne_true (i2.2 c)
      cases b3 with
      | true =>
        have h3 : rtE (headB 47 (offB 45 s)) = 0 := i3.1 rfl
        cases b7 with
        | true =>
          have h7 : mayR (⟨(begB 45 s), (rtS (headB 47 (offB 45 s))), ⟨#[1]⟩⟩ : Rx) = true := i7.1 rfl
          exact fin _ (PRead_c_r6 b4 b5 b6) rfl (show Ending.returned (.tuple #[.agg #[.bool (begB 45 s), .string (rtS (headB 47 (offB 45 s))), .string ⟨#[1]⟩], .int .i64 0]) = .returned (.tuple #[.agg #[.bool (rdR s).g, .string (rdR s).s, .string (rdR s).t], .int .i64 (rdE s)]) from (ret_rx ⟨(rd_ok ⟨h3, (fun c => absurd c h2), by rw [rdX_f h2]; exact h7⟩).1.trans (rdX_f h2), (rd_ok ⟨h3, (fun c => absurd c h2), by rw [rdX_f h2]; exact h7⟩).2⟩))
        | false =>
          have h7 : ¬ (mayR (⟨(begB 45 s), (rtS (headB 47 (offB 45 s))), ⟨#[1]⟩⟩ : Rx) = true) := fun c => Bool.false_ne_true (i7.2 c)
          exact fin _ (PRead_c_r7 b4 b5 b6) rfl (show Ending.returned (.tuple #[.agg #[.bool false, .string ⟨#[]⟩, .string ⟨#[]⟩], .int .i64 40]) = .returned (.tuple #[.agg #[.bool (rdR s).g, .string (rdR s).s, .string (rdR s).t], .int .i64 (rdE s)]) from (ret_rx (rd_no (fun c => h7 (by have hh := c.2.2; rwa [rdX_f h2] at hh)))))
      | false =>
        have h3 : ¬ (rtE (headB 47 (offB 45 s)) = 0) := fun c => Bool.false_ne_true (i3.2 c)
        exact fin _ (PRead_c_r8 b4 b5 b6 b7) rfl (show Ending.returned (.tuple #[.agg #[.bool false, .string ⟨#[]⟩, .string ⟨#[]⟩], .int .i64 40]) = .returned (.tuple #[.agg #[.bool (rdR s).g, .string (rdR s).s, .string (rdR s).t], .int .i64 (rdE s)]) from (ret_rx (rd_no (fun c => h3 c.1))))
end Go.Proofs.YtajcapliokblfaaGreatDoor
