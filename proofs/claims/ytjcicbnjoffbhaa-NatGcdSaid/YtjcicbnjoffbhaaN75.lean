/- nat.Gcd. -/
import Derived.Test.YtjcicbnjoffbhaaN2
import Derived.Test.YtjcicbnjoffbhaaN60
import Derived.Deep.RegionHeld3
import Derived.BigQuiet
set_option linter.unusedSimpArgs false
set_option linter.unusedVariables false
namespace Go.Proofs.Ytjcicbnjoffbhaa
open Go Nt

theorem uni {a b X Y p q r s : Nat} (h1 : p * a = q * b + X) (h2 : s * b = r * a + Y) (hd : p * s = r * q + 1) : s * X + q * Y = a ∧ r * X + p * Y = b := by
  have e1 : s * (p * a) = s * (q * b + X) := congrArg (s * ·) h1
  have e2 : q * (s * b) = q * (r * a + Y) := congrArg (q * ·) h2
  have e3 : r * (p * a) = r * (q * b + X) := congrArg (r * ·) h1
  have e4 : p * (s * b) = p * (r * a + Y) := congrArg (p * ·) h2
  have e5 : (p * s) * a = (r * q + 1) * a := congrArg (· * a) hd
  have e6 : (p * s) * b = (r * q + 1) * b := congrArg (· * b) hd
  constructor <;> grind
theorem gcd_same {a b X Y p q r s : Nat} (h1 : p * a = q * b + X) (h2 : s * b = r * a + Y) (hd : p * s = r * q + 1) : Nat.gcd X Y = Nat.gcd a b := by
  obtain ⟨ha, hb⟩ := uni h1 h2 hd
  refine Nat.dvd_antisymm (Nat.dvd_gcd ?_ ?_) (Nat.dvd_gcd ?_ ?_)
  · rw [← ha]
    exact Nat.dvd_add (Nat.dvd_trans (Nat.gcd_dvd_left X Y) (Nat.dvd_mul_left _ _)) (Nat.dvd_trans (Nat.gcd_dvd_right X Y) (Nat.dvd_mul_left _ _))
  · rw [← hb]
    exact Nat.dvd_add (Nat.dvd_trans (Nat.gcd_dvd_left X Y) (Nat.dvd_mul_left _ _)) (Nat.dvd_trans (Nat.gcd_dvd_right X Y) (Nat.dvd_mul_left _ _))
  · refine (Nat.dvd_add_right (Nat.dvd_trans (Nat.gcd_dvd_right a b) (Nat.dvd_mul_left _ q))).1 ?_
    rw [← h1]
    exact Nat.dvd_trans (Nat.gcd_dvd_left a b) (Nat.dvd_mul_left _ _)
  · refine (Nat.dvd_add_right (Nat.dvd_trans (Nat.gcd_dvd_left a b) (Nat.dvd_mul_left _ r))).1 ?_
    rw [← h2]
    exact Nat.dvd_trans (Nat.gcd_dvd_right a b) (Nat.dvd_mul_left _ _)
/-- How the words top and low come of the numbers A and B. -/
def Way (A B : Nat) (even : Bool) (top low u1 v1 u2 v2 : Nat) : Prop :=
  (even = false → u1 * A = v1 * B + top ∧ v2 * B = u2 * A + low ∧ u1 * v2 = u2 * v1 + 1) ∧
  (even = true → v1 * B = u1 * A + top ∧ u2 * A = v2 * B + low ∧ v1 * u2 = v2 * u1 + 1) ∧
  u2 ≤ v2 ∧ u1 + u2 ≤ v1 + v2 ∧ low ≤ top
theorem Way.first {A B : Nat} (h : B ≤ A) : Way A B false A B 1 0 0 1 := by
  exact ⟨fun _ => ⟨by omega, by omega, by omega⟩, fun c => Bool.noConfusion c, by omega, by omega, h⟩
theorem Way.step {A B top low u1 v1 u2 v2 q : Nat} {even : Bool} (h : Way A B even top low u1 v1 u2 v2) (hl : low ≠ 0) (hq : q = top / low) :
    Way A B (!even) low (top % low) u2 v2 (u1 + q * u2) (v1 + q * v2) := by
  obtain ⟨h1, h2, h3, h4, h5⟩ := h
  have hd : q * low + top % low = top := by rw [hq, Nat.mul_comm]; exact Nat.div_add_mod _ _
  have hq1 : 1 ≤ q := by rw [hq]; exact Nat.div_pos h5 (Nat.pos_of_ne_zero hl)
  have hlt := Nat.mod_lt top (Nat.pos_of_ne_zero hl)
  generalize top % low = r at *
  have hu : u1 + q * u2 ≤ v1 + q * v2 := by
    obtain ⟨p, rfl⟩ : ∃ p, q = p + 1 := ⟨q - 1, by omega⟩
    have := Nat.mul_le_mul_left p h3
    rw [Nat.add_mul, Nat.add_mul, Nat.one_mul, Nat.one_mul]
    omega
  refine ⟨fun he => ?_, fun he => ?_, hu, by omega, by omega⟩
  · have he' : even = true := by cases even <;> simp_all
    obtain ⟨e1, e2, e3⟩ := h2 he'
    refine ⟨e2, ?_, ?_⟩
    · have e4 : q * (u2 * A) = q * (v2 * B + low) := congrArg (q * ·) e2
      grind
    · grind
  · have he' : even = false := by cases even <;> simp_all
    obtain ⟨e1, e2, e3⟩ := h1 he'
    refine ⟨e2, ?_, ?_⟩
    · have e4 : q * (v2 * B) = q * (u2 * A + low) := congrArg (q * ·) e2
      grind
    · grind
/-- The words' own sum: no product of the way is longer than A. -/
theorem Way.sum {A B top low u1 v1 u2 v2 : Nat} {even : Bool} (h : Way A B even top low u1 v1 u2 v2) : v2 * top + v1 * low = A ∧ u2 * top + u1 * low = B := by
  obtain ⟨h1, h2, -⟩ := h
  cases even with
  | false => obtain ⟨e1, e2, e3⟩ := h1 rfl; exact uni e1 e2 e3
  | true => obtain ⟨e1, e2, e3⟩ := h2 rfl; exact (uni e1 e2 e3).symm
/-- The numbers themselves, as the way leaves them. -/
def Far (a b : Nat) (even : Bool) (X Y u1 v1 u2 v2 : Nat) : Prop :=
  (even = false → u1 * a = v1 * b + X ∧ v2 * b = u2 * a + Y) ∧ (even = true → v1 * b = u1 * a + X ∧ u2 * a = v2 * b + Y)
theorem far_false {A B H a0 b0 top low u1 v1 u2 v2 : Nat} (e1 : u1 * A = v1 * B + top) (e2 : v2 * B = u2 * A + low) (ha : a0 < H) (hb : b0 < H) (h3 : u2 ≤ v2) (c1 : v2 ≤ low) (c2 : low + (v1 + v2) ≤ top) (hv : v1 + v2 ≠ 0) :
    ∃ X Y, u1 * (A * H + a0) = v1 * (B * H + b0) + X ∧ v2 * (B * H + b0) = u2 * (A * H + a0) + Y ∧ Y < X := by
  have f1 : u1 * (A * H + a0) = (u1 * A) * H + u1 * a0 := by grind
  have f2 : v1 * (B * H + b0) = (v1 * B) * H + v1 * b0 := by grind
  have f3 : v2 * (B * H + b0) = (v2 * B) * H + v2 * b0 := by grind
  have f4 : u2 * (A * H + a0) = (u2 * A) * H + u2 * a0 := by grind
  rw [f1, f2, f3, f4, e1, e2, Nat.add_mul, Nat.add_mul]
  have g1 : u2 * a0 ≤ v2 * H := Nat.mul_le_mul h3 (by omega)
  have g2 : v2 * H ≤ low * H := Nat.mul_le_mul_right _ c1
  have g3 : (low + (v1 + v2)) * H ≤ top * H := Nat.mul_le_mul_right _ c2
  rw [Nat.add_mul, Nat.add_mul] at g3
  have g4 : v1 * b0 ≤ v1 * H := Nat.mul_le_mul_left _ (by omega)
  have g5 : v2 * b0 ≤ v2 * H := Nat.mul_le_mul_left _ (by omega)
  have g6 : v1 * b0 + v2 * b0 < v1 * H + v2 * H := by
    rw [← Nat.add_mul, ← Nat.add_mul]
    exact Nat.mul_lt_mul_of_pos_left hb (Nat.pos_of_ne_zero hv)
  exact ⟨top * H + u1 * a0 - v1 * b0, low * H + v2 * b0 - u2 * a0, by omega, by omega, by omega⟩
theorem far_true {A B H a0 b0 top low u1 v1 u2 v2 : Nat} (e1 : v1 * B = u1 * A + top) (e2 : u2 * A = v2 * B + low) (ha : a0 < H) (hb : b0 < H) (h4 : u1 + u2 ≤ v1 + v2) (c1 : v2 ≤ low) (c2 : low + (v1 + v2) ≤ top) (hv : v1 + v2 ≠ 0) :
    ∃ X Y, v1 * (B * H + b0) = u1 * (A * H + a0) + X ∧ u2 * (A * H + a0) = v2 * (B * H + b0) + Y ∧ Y < X := by
  have f1 : u1 * (A * H + a0) = (u1 * A) * H + u1 * a0 := by grind
  have f2 : v1 * (B * H + b0) = (v1 * B) * H + v1 * b0 := by grind
  have f3 : v2 * (B * H + b0) = (v2 * B) * H + v2 * b0 := by grind
  have f4 : u2 * (A * H + a0) = (u2 * A) * H + u2 * a0 := by grind
  rw [f1, f2, f3, f4, e1, e2, Nat.add_mul, Nat.add_mul]
  have g2 : v2 * H ≤ low * H := Nat.mul_le_mul_right _ c1
  have g3 : (low + (v1 + v2)) * H ≤ top * H := Nat.mul_le_mul_right _ c2
  rw [Nat.add_mul] at g3
  have g5 : v2 * b0 ≤ v2 * H := Nat.mul_le_mul_left _ (by omega)
  have g7 : (u1 + u2) * a0 ≤ (v1 + v2) * a0 := Nat.mul_le_mul_right _ h4
  have g6 : (v1 + v2) * a0 < (v1 + v2) * H := Nat.mul_lt_mul_of_pos_left ha (Nat.pos_of_ne_zero hv)
  rw [Nat.add_mul u1 u2] at g7
  exact ⟨top * H + v1 * b0 - u1 * a0, low * H + u2 * a0 - v2 * b0, by omega, by omega, by omega⟩
/-- Collins' condition: where it holds, the numbers go the words' way. -/
theorem Way.far {A B H a0 b0 a b top low u1 v1 u2 v2 : Nat} {even : Bool} (h : Way A B even top low u1 v1 u2 v2) (ha : a = A * H + a0) (hb : b = B * H + b0) (ha0 : a0 < H) (hb0 : b0 < H) (c1 : v2 ≤ low) (c2 : low + (v1 + v2) ≤ top) (hv : v1 + v2 ≠ 0) :
    ∃ X Y, Far a b even X Y u1 v1 u2 v2 ∧ Y < X ∧ Nat.gcd X Y = Nat.gcd a b := by
  obtain ⟨h1, h2, h3, h4, -⟩ := h
  subst ha hb
  cases even with
  | false =>
    obtain ⟨e1, e2, e3⟩ := h1 rfl
    obtain ⟨X, Y, x1, x2, x3⟩ := far_false e1 e2 ha0 hb0 h3 c1 c2 hv
    exact ⟨X, Y, ⟨fun _ => ⟨x1, x2⟩, fun c => by cases c⟩, x3, gcd_same x1 x2 e3⟩
  | true =>
    obtain ⟨e1, e2, e3⟩ := h2 rfl
    obtain ⟨X, Y, x1, x2, x3⟩ := far_true e1 e2 ha0 hb0 h4 c1 c2 hv
    exact ⟨X, Y, ⟨fun c => (by cases c), fun _ => ⟨x1, x2⟩⟩, x3, (gcd_same x1 x2 e3).trans (Nat.gcd_comm _ _)⟩
end Go.Proofs.Ytjcicbnjoffbhaa
set_option linter.unusedSimpArgs false
set_option linter.unusedVariables false
namespace Go.Proofs.Ytjcicbnjoffbhaa
open Go Go.RowKit Nt

theorem nd_times {a k : Nat} (hk : k < 18446744073709551616) : nd W (a * k) ≤ nd W a + 1 := by
  refine nd_le W2 ?_
  have h1 := lt_nd (n := a) W2
  rw [Nat.pow_succ]
  have h2 : a * k ≤ a * W := Nat.mul_le_mul_left _ (by rw [W_eq]; omega)
  have h3 : a * W < W ^ nd W a * W := Nat.mul_lt_mul_of_pos_right h1 W0
  omega
set_option maxRecDepth 100000 in
set_option maxHeartbeats 1000000 in
theorem Apart_c (A A' : Option Addr) (c c' a b u v B : Nat) (w : World) (hL : nd W a ≤ 100000000) (hL' : nd W b ≤ 100000000) (hu : u < 18446744073709551616) (hv : v < 18446744073709551616) (h : b * v ≤ a * u)
    (hr : Row w B A a (nd W a)) (hr' : Row w B A' b (nd W b)) (hBs : B ≤ w.heap.size) :
    Calls Try.prog 107 #[.slice A (nd W a) c, .int .u64 (u : Nat), .slice A' (nd W b) c', .int .u64 (v : Nat)] w (NumPost (a * u - b * v) w) := by
  have HU := Lib.hid (Nat.le_trans (nd_times (a := a) hu) (show nd W a + 1 ≤ 100000001 by omega))
  have HV := Lib.hid (Nat.le_trans (nd_times (a := b) hv) (show nd W b + 1 ≤ 100000001 by omega))
  have HLE := Lib.hid h
  have HR := Lib.hid hr
  have HR' := Lib.hid hr'
  have HBS := Lib.hid hBs
  have HL := Lib.hid hL
  have HL' := Lib.hid hL'
  have HUU := Lib.hid hu
  have HVV := Lib.hid hv
  clear h hr hr' hBs hL hL' 
  go_enter Try.func107, Try.ntmps107
  go_wp2_with fail
  have k1 := Put_c A c a u 0 B w HUU.out (by omega) (by have := HL.out; omega) HR.out HBS.out
  rw [Nat.add_zero] at k1
  have K1 := Lib.hid k1
  clear k1
  refine K1.out.mono ?_
  intro e w1 hp
  obtain ⟨A1, c1, rfl, hc1, hr1, hb1⟩ := hp.get
  have HR1 := Lib.hid hr1
  clear hr1 hp K1
  go_wp2_with fail
  have k2 := Put_c A' c' b v 0 B w1 HVV.out (by omega) (by have := HL'.out; omega) (HR'.out.below (hb1.mono HBS.out)) (Nat.le_trans HBS.out hb1.size)
  rw [Nat.add_zero] at k2
  have K2 := Lib.hid k2
  clear k2
  refine K2.out.mono ?_
  intro e w2 hp
  obtain ⟨A2, c2, rfl, hc2, hr2, hb2⟩ := hp.get
  have HR2 := Lib.hid hr2
  have HR12 := Lib.hid ((HR1.out.below hb2).more hb2.size)
  have hbw := below_chain hb1 hb2
  clear hr2 hp K2 hb1 hb2
  go_wp2_with fail
  refine (Sub_c A1 A2 c1 c2 (a * u) (b * v) w2.heap.size w2 HLE.out (by have := HU.out; omega) HR12.out HR2.out (Nat.le_refl _)).mono ?_
  intro e w3 hp
  obtain ⟨A3, c3, rfl, hc3, hr3, hb3⟩ := hp.get
  go_wp2
  go_ret
  exact NumPost.mk hc3 hr3 (below_chain hbw hb3)
end Go.Proofs.Ytjcicbnjoffbhaa
set_option linter.unusedSimpArgs false
set_option linter.unusedVariables false
namespace Go.Proofs.Ytjcicbnjoffbhaa
open Go Go.RowKit Nt

/-- Two numbers. -/
def TwoPost (x y : Nat) (w : World) (e : Ending) (w' : World) : Prop :=
  ∃ A c A' c', e = .returned (.tuple #[.slice A (nd W x) c, .slice A' (nd W y) c']) ∧ nd W x ≤ c ∧ nd W y ≤ c' ∧ Row w' w'.heap.size A x (nd W x) ∧ Row w' w'.heap.size A' y (nd W y) ∧ Below w.heap.size w w'
/-- What stays as the call goes on. -/
def SDo (w w' : World) : Prop := Below w.heap.size w w'
theorem SDo.step {w w' w'' : World} (h : SDo w w') (hb : Below w'.heap.size w' w'') : SDo w w'' := below_chain h hb
theorem SDo.step2 {w w' w'' : World} {n : Nat} (h : SDo w w') (hb : Below (w'.drewN n).heap.size (w'.drewN n) w'') : SDo w w'' := below_chain (below_drewN h n) hb
theorem SDo.draw {w w' : World} (h : SDo w w') (n : Nat) : SDo w (w'.drewN n) := below_drewN h n
theorem SDo.drew1 {w w' : World} (h : SDo w w') : SDo w w'.drew := Below.drew h
set_option maxRecDepth 100000 in
set_option maxHeartbeats 1000000 in
theorem Do_c (A A' : Option Addr) (c c' a b u0 v0 u1 v1 B : Nat) (even : Bool) (w : World) (hL : nd W a ≤ 100000000) (hL' : nd W b ≤ 100000000) (hu0 : u0 < 18446744073709551616) (hv0 : v0 < 18446744073709551616) (hu1 : u1 < 18446744073709551616) (hv1 : v1 < 18446744073709551616)
    (X Y : Nat) (hE : even = true → u0 * a = v0 * b + X ∧ v1 * b = u1 * a + Y) (hO : even = false → v0 * b = u0 * a + X ∧ u1 * a = v1 * b + Y)
    (hr : Row w B A a (nd W a)) (hr' : Row w B A' b (nd W b)) (hBs : B ≤ w.heap.size) :
    Calls Try.prog 105 #[.agg #[.int .u64 (u0 : Nat), .int .u64 (v0 : Nat), .int .u64 (u1 : Nat), .int .u64 (v1 : Nat), .bool even], .slice A (nd W a) c, .slice A' (nd W b) c'] w (TwoPost X Y w) := by
  have hAp := fun (x y : Nat) (w' : World) (Ax Ay : Option Addr) (cx cy p q Z : Nat) (hx : nd W x ≤ 100000000) (hy : nd W y ≤ 100000000) (hp : p < 18446744073709551616) (hq : q < 18446744073709551616) (hz : p * x = q * y + Z) (hrx : Row w' B Ax x (nd W x)) (hry : Row w' B Ay y (nd W y)) (hBs : B ≤ w'.heap.size) => by
    have h := Apart_c Ax Ay cx cy x y p q B w' hx hy hp hq (by rw [Nat.mul_comm y, Nat.mul_comm x]; omega) hrx hry hBs
    rw [show x * p - y * q = Z by rw [Nat.mul_comm y, Nat.mul_comm x]; omega] at h
    exact h
  have hw1 : Below w.heap.size w (w.alloc (.cells #[.int .u64 (u0 : Nat), .int .u64 (v0 : Nat), .int .u64 (u1 : Nat), .int .u64 (v1 : Nat), .bool even] 119)) := (Below.refl _ _).alloc (Nat.le_refl _) _
  have hcell : ∀ k, (w.alloc (.cells #[.int .u64 (u0 : Nat), .int .u64 (v0 : Nat), .int .u64 (u1 : Nat), .int .u64 (v1 : Nat), .bool even] 119)).cell? ⟨w.heap.size, k, none⟩ = (#[Value.int .u64 (u0 : Nat), .int .u64 (v0 : Nat), .int .u64 (u1 : Nat), .int .u64 (v1 : Nat), .bool even])[k]? := fun k => World.cell?_alloc_at _ _ _ _ rfl
  have hsz : (w.alloc (.cells #[.int .u64 (u0 : Nat), .int .u64 (v0 : Nat), .int .u64 (u1 : Nat), .int .u64 (v1 : Nat), .bool even] 119)).heap.size = w.heap.size + 1 := by simp
  have HR := Lib.hid hr
  have HR' := Lib.hid hr'
  have HA : Hid _ := Lib.hid hAp
  clear hAp hr hr'
  have HE := Lib.hid hE
  have HO := Lib.hid hO
  clear hE hO
  cases even with
  | true =>
    obtain ⟨e1, e2⟩ := HE.out rfl
    go_enter Try.func105, Try.ntmps105
    go_wp2_with fail
    generalize w.alloc (.cells #[.int .u64 (u0 : Nat), .int .u64 (v0 : Nat), .int .u64 (u1 : Nat), .int .u64 (v1 : Nat), .bool true] 119) = w1 at *
    have hlt : w.heap.size < w1.heap.size := by omega
    have L0 : ∀ w', SDo w1 w' → w'.cell? ⟨w.heap.size, 0, none⟩ = some (.int .u64 (u0 : Nat)) := fun w' h => (Below.cell h (p := ⟨w.heap.size, 0, none⟩) hlt).trans (hcell 0)
    have L1 : ∀ w', SDo w1 w' → w'.cell? ⟨w.heap.size, 1, none⟩ = some (.int .u64 (v0 : Nat)) := fun w' h => (Below.cell h (p := ⟨w.heap.size, 1, none⟩) hlt).trans (hcell 1)
    have L2 : ∀ w', SDo w1 w' → w'.cell? ⟨w.heap.size, 2, none⟩ = some (.int .u64 (u1 : Nat)) := fun w' h => (Below.cell h (p := ⟨w.heap.size, 2, none⟩) hlt).trans (hcell 2)
    have L3 : ∀ w', SDo w1 w' → w'.cell? ⟨w.heap.size, 3, none⟩ = some (.int .u64 (v1 : Nat)) := fun w' h => (Below.cell h (p := ⟨w.heap.size, 3, none⟩) hlt).trans (hcell 3)
    have L4 : SDo w1 w1.drew := (Below.refl _ _).drew
    have hB1 : Below B w w1 := hw1.mono hBs
    have KA := Lib.hid (fun (w' : World) (h : SDo w1 w') => HA.out a b w' A A' c c' u0 v0 X hL hL' hu0 hv0 e1 ((HR.out.below hB1).below (Below.mono h (by omega))) ((HR'.out.below hB1).below (Below.mono h (by omega))) (Nat.le_trans hBs (Nat.le_trans hw1.size h.size)))
    have KB := Lib.hid (fun (w' : World) (h : SDo w1 w') => HA.out b a w' A' A c' c v1 u1 Y hL' hL hv1 hu1 e2 ((HR'.out.below hB1).below (Below.mono h (by omega))) ((HR.out.below hB1).below (Below.mono h (by omega))) (Nat.le_trans hBs (Nat.le_trans hw1.size h.size)))
    clear e1 e2 HA HR HR' HE HO hcell hsz hL hL' hu0 hv0 hu1 hv1 hB1
    go_region_held3 (SDo w1) (first | assumption | exact SDo.step (by assumption) (by assumption) | exact SDo.drew1 (by assumption) | exact SDo.draw (by assumption) _)
      (first
        | (go_at_call 107; with_reducible refine (KA.out _ (by assumption)).mono ?_; intro e w' hp; obtain ⟨Ax, cx, rfl, hcx, hrx, hbx⟩ := hp.get)
        | (go_at_call 107; with_reducible refine (KB.out _ (by assumption)).mono ?_; intro e w' hp; obtain ⟨Ay, cy, rfl, hcy, hry, hby⟩ := hp.get))
    rename_i hHeld
    have hfin : Below w.heap.size w _ := hw1.trans (Below.mono hHeld hw1.size)
    have HF := Lib.hid hfin
    have HX : Row w' w'.heap.size Ax X (nd W X) := (hrx.below hby).more hby.size
    have HXX := Lib.hid HX
    have HYY := Lib.hid hry
    clear L0 L1 L2 L3 L4 hHeld hp hrx hry hbx hby hfin HX KA KB
    go_wp2
    go_ret2
    exact ⟨Ax, cx, Ay, cy, rfl, hcx, hcy, HXX.out, HYY.out, HF.out⟩
  | false =>
    obtain ⟨e1, e2⟩ := HO.out rfl
    go_enter Try.func105, Try.ntmps105
    go_wp2_with fail
    generalize w.alloc (.cells #[.int .u64 (u0 : Nat), .int .u64 (v0 : Nat), .int .u64 (u1 : Nat), .int .u64 (v1 : Nat), .bool false] 119) = w1 at *
    have hlt : w.heap.size < w1.heap.size := by omega
    have L0 : ∀ w', SDo w1 w' → w'.cell? ⟨w.heap.size, 0, none⟩ = some (.int .u64 (u0 : Nat)) := fun w' h => (Below.cell h (p := ⟨w.heap.size, 0, none⟩) hlt).trans (hcell 0)
    have L1 : ∀ w', SDo w1 w' → w'.cell? ⟨w.heap.size, 1, none⟩ = some (.int .u64 (v0 : Nat)) := fun w' h => (Below.cell h (p := ⟨w.heap.size, 1, none⟩) hlt).trans (hcell 1)
    have L2 : ∀ w', SDo w1 w' → w'.cell? ⟨w.heap.size, 2, none⟩ = some (.int .u64 (u1 : Nat)) := fun w' h => (Below.cell h (p := ⟨w.heap.size, 2, none⟩) hlt).trans (hcell 2)
    have L3 : ∀ w', SDo w1 w' → w'.cell? ⟨w.heap.size, 3, none⟩ = some (.int .u64 (v1 : Nat)) := fun w' h => (Below.cell h (p := ⟨w.heap.size, 3, none⟩) hlt).trans (hcell 3)
    have L4 : SDo w1 w1.drew := (Below.refl _ _).drew
    have hB1 : Below B w w1 := hw1.mono hBs
    have KA := Lib.hid (fun (w' : World) (h : SDo w1 w') => HA.out b a w' A' A c' c v0 u0 X hL' hL hv0 hu0 e1 ((HR'.out.below hB1).below (Below.mono h (by omega))) ((HR.out.below hB1).below (Below.mono h (by omega))) (Nat.le_trans hBs (Nat.le_trans hw1.size h.size)))
    have KB := Lib.hid (fun (w' : World) (h : SDo w1 w') => HA.out a b w' A A' c c' u1 v1 Y hL hL' hu1 hv1 e2 ((HR.out.below hB1).below (Below.mono h (by omega))) ((HR'.out.below hB1).below (Below.mono h (by omega))) (Nat.le_trans hBs (Nat.le_trans hw1.size h.size)))
    clear e1 e2 HA HR HR' HE HO hcell hsz hL hL' hu0 hv0 hu1 hv1 hB1
    go_region_held3 (SDo w1) (first | assumption | exact SDo.step (by assumption) (by assumption) | exact SDo.drew1 (by assumption) | exact SDo.draw (by assumption) _)
      (first
        | (go_at_call 107; with_reducible refine (KA.out _ (by assumption)).mono ?_; intro e w' hp; obtain ⟨Ax, cx, rfl, hcx, hrx, hbx⟩ := hp.get)
        | (go_at_call 107; with_reducible refine (KB.out _ (by assumption)).mono ?_; intro e w' hp; obtain ⟨Ay, cy, rfl, hcy, hry, hby⟩ := hp.get))
    rename_i hHeld
    have hfin : Below w.heap.size w _ := hw1.trans (Below.mono hHeld hw1.size)
    have HF := Lib.hid hfin
    have HX : Row w' w'.heap.size Ax X (nd W X) := (hrx.below hby).more hby.size
    have HXX := Lib.hid HX
    have HYY := Lib.hid hry
    clear L0 L1 L2 L3 L4 hHeld hp hrx hry hbx hby hfin HX KA KB
    go_wp2
    go_ret2
    exact ⟨Ax, cx, Ay, cy, rfl, hcx, hcy, HXX.out, HYY.out, HF.out⟩
end Go.Proofs.Ytjcicbnjoffbhaa
set_option linter.unusedSimpArgs false
set_option linter.unusedVariables false
namespace Go.Proofs.Ytjcicbnjoffbhaa
open Go Go.RowKit Nt

theorem dgt_up (y i : Nat) : dgt W (y * W) (i + 1) = dgt W y i := by
  rw [dgt_def, dgt_def, Nat.pow_succ, Nat.mul_div_mul_right _ _ W0]
theorem shl_word (y m s : Nat) (hs : s < 64) : dgt W (y * 2 ^ s) (m + 1) = dgt W y m / 2 ^ (64 - s) + dgt W y (m + 1) * 2 ^ s % W := by
  have h := dgt_shr (e := 64) (y * W) (64 - s) (m + 1) (by omega)
  rw [← W_two, dgt_up, dgt_up, show 64 - (64 - s) = s by omega] at h
  have e : y * W / 2 ^ (64 - s) = y * 2 ^ s := by
    have hW : W = 2 ^ s * 2 ^ (64 - s) := by rw [W_two, ← Nat.pow_add]; congr 1; omega
    rw [hW, ← Nat.mul_assoc, Nat.mul_div_cancel _ (Nat.two_pow_pos _)]
  rw [e] at h
  exact h
theorem guess_word (y m s : Nat) (hs : s < 64) :
    bits .or .u64 (IntKind.u64.wrap (((dgt W y (m + 1) : Nat) : Int) * 2 ^ s)) (((dgt W y m : Nat) : Int) / 2 ^ (64 - s)) = ((dgt W (y * 2 ^ s) (m + 1) : Nat) : Int) := by
  have hv : dgt W y m / 2 ^ (64 - s) < 2 ^ s := by
    rw [Nat.div_lt_iff_lt_mul (Nat.two_pow_pos _), ← Nat.pow_add, show s + (64 - s) = 64 by omega, ← W_two]; exact dgt_lt W0 _ _
  have hv64 : dgt W y m / 2 ^ (64 - s) < 18446744073709551616 := Nat.lt_of_le_of_lt (Nat.div_le_self _ _) (wd_lt _ _)
  have hlow : dgt W y (m + 1) * 2 ^ s % W = 2 ^ s * (dgt W y (m + 1) % 2 ^ (64 - s)) := by
    have hW : W = 2 ^ s * 2 ^ (64 - s) := by rw [W_two, ← Nat.pow_add]; congr 1; omega
    generalize dgt W y (m + 1) = D
    rw [hW, Nat.mul_comm D, Nat.mul_mod_mul_left]
  have e2 : IntKind.u64.wrap (((dgt W y (m + 1) : Nat) : Int) * 2 ^ s) = ((dgt W y (m + 1) * 2 ^ s % W : Nat) : Int) := by
    rw [IntKind.wrap_u64, int_pow2, ← Int.natCast_mul, W_eq, Int.natCast_emod]; rfl
  rw [e2, int_pow2, ← Int.natCast_ediv, bits_or_u64_nat _ _ (Nat.lt_of_lt_of_eq (Nat.mod_lt _ W0) W_eq) hv64, shl_word y m s hs, hlow, Nat.or_comm, or_add _ _ _ hv]
theorem guess_word0 (y m s : Nat) (hs : s < 64) (hz : dgt W y (m + 1) = 0) : ((dgt W y m : Nat) : Int) / 2 ^ (64 - s) = ((dgt W (y * 2 ^ s) (m + 1) : Nat) : Int) := by
  rw [shl_word y m s hs, hz, Nat.zero_mul, Nat.zero_mod, Nat.add_zero, int_pow2, ← Int.natCast_ediv]
theorem guess_high (a m s : Nat) (hs : s < 64) (h : a * 2 ^ s < W ^ (m + 2)) : ∃ H, 0 < H ∧ ∀ x, x ≤ a → dgt W (x * 2 ^ s) (m + 1) = x / H := by
  refine ⟨2 ^ (64 * (m + 1) - s), Nat.two_pow_pos _, fun x hx => ?_⟩
  have h1 : x * 2 ^ s < W ^ (m + 1) * W := by
    rw [← Nat.pow_succ]
    exact Nat.lt_of_le_of_lt (Nat.mul_le_mul_right _ hx) h
  have hW : W ^ (m + 1) = 2 ^ (64 * (m + 1) - s) * 2 ^ s := by
    rw [W_two, ← Nat.pow_mul, ← Nat.pow_add]; congr 1; omega
  rw [dgt_def, Nat.mod_eq_of_lt (Nat.div_lt_of_lt_mul h1), hW, Nat.mul_div_mul_right _ _ (Nat.two_pow_pos s)]
/-- What the guess leaves: the steps that surely are Euclid's. -/
def Held (a b u0 v0 u1 v1 : Nat) (even : Bool) : Prop :=
  ∃ X Y, Y < X ∧ Y ≤ b ∧ X ≤ a ∧ (v0 ≠ 0 → Y < b) ∧ Nat.gcd X Y = Nat.gcd a b ∧
    (even = true → u0 * a = v0 * b + X ∧ v1 * b = u1 * a + Y) ∧ (even = false → v0 * b = u0 * a + X ∧ u1 * a = v1 * b + Y)
/-- The guess's way: at its beginning, or with steps held. -/
def Guess (a b A B u0 v0 u1 v1 u2 v2 top low : Nat) (even : Bool) : Prop :=
  Way A B even top low u1 v1 u2 v2 ∧ v2 ≠ 0 ∧
    ((u0 = 0 ∧ v0 = 0 ∧ u1 = 1 ∧ v1 = 0 ∧ u2 = 0 ∧ v2 = 1 ∧ even = false) ∨ (v1 ≠ 0 ∧ Held a b u0 v0 u1 v1 even))
theorem Guess.first {a b A B : Nat} (h : B ≤ A) : Guess a b A B 0 0 1 0 0 1 A B false :=
  ⟨Way.first h, by omega, Or.inl ⟨rfl, rfl, rfl, rfl, rfl, rfl, rfl⟩⟩
theorem Guess.step {a b A B H u0 v0 u1 v1 u2 v2 top low q : Nat} {even : Bool} (h : Guess a b A B u0 v0 u1 v1 u2 v2 top low even) (hab : b ≤ a) (hA : A = a / H) (hB : B = b / H) (hH : 0 < H)
    (c1 : v2 ≤ low) (c2 : low + (v1 + v2) ≤ top) (hq : q = top / low) :
    Guess a b A B u1 v1 u2 v2 (u1 + q * u2) (v1 + q * v2) low (top % low) (!even) := by
  obtain ⟨hw, hv2, hs⟩ := h
  have hl : low ≠ 0 := by omega
  have ha : a = A * H + a % H := by rw [hA, Nat.mul_comm]; exact (Nat.div_add_mod a H).symm
  have hb : b = B * H + b % H := by rw [hB, Nat.mul_comm]; exact (Nat.div_add_mod b H).symm
  obtain ⟨X, Y, hF, hYX, hg⟩ := hw.far ha hb (Nat.mod_lt _ hH) (Nat.mod_lt _ hH) c1 c2 (by omega)
  have hq1 : 1 ≤ q := by rw [hq]; exact Nat.div_pos (by omega) (Nat.pos_of_ne_zero hl)
  refine ⟨hw.step hl hq, ?_, Or.inr ⟨hv2, X, Y, hYX, ?_⟩⟩
  · have := Nat.le_mul_of_pos_left v2 hq1; omega
  · rcases hs with ⟨rfl, rfl, rfl, rfl, rfl, rfl, rfl⟩ | ⟨hv1, X0, Y0, g1, g2, g3, g4, g5, g6, g7⟩
    · obtain ⟨f1, f2⟩ := hF.1 rfl
      have eX : X = a := by omega
      have eY : Y = b := by omega
      subst eX eY
      exact ⟨Nat.le_refl _, Nat.le_refl _, fun c => absurd rfl c, hg, fun _ => ⟨by omega, by omega⟩, fun c => Bool.noConfusion c⟩
    · have eX : X = Y0 := by
        cases even with
        | false => have := hF.1 rfl; have := g7 rfl; omega
        | true => have := hF.2 rfl; have := g6 rfl; omega
      subst eX
      refine ⟨by omega, by omega, fun _ => by omega, hg, fun c => ?_, fun c => ?_⟩
      · cases even with
        | false => have := hF.1 rfl; exact ⟨this.1, this.2⟩
        | true => exact Bool.noConfusion c
      · cases even with
        | true => have := hF.2 rfl; exact ⟨this.1, this.2⟩
        | false => exact Bool.noConfusion c
theorem le_sum {x y p q A : Nat} (h : x * p + y * q = A) (hp : p ≠ 0) (hq : q ≠ 0) : x ≤ A ∧ y ≤ A ∧ x + y ≤ A := by
  have h1 := Nat.le_mul_of_pos_right x (Nat.pos_of_ne_zero hp)
  have h2 := Nat.le_mul_of_pos_right y (Nat.pos_of_ne_zero hq)
  omega
theorem le_sum1 {x y p q A : Nat} (h : x * p + y * q = A) (hp : p ≠ 0) : x ≤ A := by
  have h1 := Nat.le_mul_of_pos_right x (Nat.pos_of_ne_zero hp)
  omega
/-- The bounds of the way's numbers. -/
theorem Guess.bounds {a b A B u0 v0 u1 v1 u2 v2 top low : Nat} {even : Bool} (h : Guess a b A B u0 v0 u1 v1 u2 v2 top low even) (hl : v2 ≤ low) (hBA : B ≤ A) :
    u2 ≤ A ∧ v2 ≤ A ∧ v1 ≤ A ∧ u1 ≤ A ∧ v1 + v2 ≤ A ∧ low ≤ top ∧ top ≤ A ∧
      (∀ q, q = top / low → u1 + q * u2 ≤ A ∧ v1 + q * v2 ≤ A ∧ q ≤ A) := by
  obtain ⟨hw, hv2, -⟩ := h
  have hlt := hw.2.2.2.2
  have hl0 : low ≠ 0 := by omega
  have ht0 : top ≠ 0 := by omega
  obtain ⟨s1, s2⟩ := hw.sum
  obtain ⟨b1, b2, b3⟩ := le_sum s1 ht0 hl0
  obtain ⟨b4, b5, b6⟩ := le_sum s2 ht0 hl0
  have htA : top ≤ A := by
    have := Nat.le_mul_of_pos_left top (Nat.pos_of_ne_zero hv2)
    omega
  refine ⟨by omega, b1, b2, by omega, by omega, hlt, htA, fun q hq => ?_⟩
  obtain ⟨t1, t2⟩ := (hw.step hl0 hq).sum
  have c1 := le_sum1 t1 hl0
  have c2 := le_sum1 t2 hl0
  have c3 : q ≤ top := by rw [hq]; exact Nat.div_le_self _ _
  exact ⟨by omega, c1, by omega⟩
end Go.Proofs.Ytjcicbnjoffbhaa
set_option linter.unusedSimpArgs false
set_option linter.unusedVariables false
namespace Go.Proofs.Ytjcicbnjoffbhaa
open Go Go.RowKit Nt

def GuessPost (a b : Nat) (w : World) (e : Ending) (w' : World) : Prop :=
  ∃ (u0 v0 u1 v1 : Nat) (even : Bool), e = .returned (.agg #[.int .u64 (u0 : Nat), .int .u64 (v0 : Nat), .int .u64 (u1 : Nat), .int .u64 (v1 : Nat), .bool even]) ∧ u0 < 18446744073709551616 ∧ v0 < 18446744073709551616 ∧ u1 < 18446744073709551616 ∧ v1 < 18446744073709551616 ∧
    (v0 ≠ 0 → Held a b u0 v0 u1 v1 even) ∧ Below w.heap.size w w'
theorem held_of {a b A B u0 v0 u1 v1 u2 v2 top low : Nat} {even : Bool} (h : Guess a b A B u0 v0 u1 v1 u2 v2 top low even) (hv : v0 ≠ 0) : Held a b u0 v0 u1 v1 even := by
  obtain ⟨-, -, ⟨-, c, -⟩ | ⟨-, h⟩⟩ := h
  · exact absurd c hv
  · exact h
set_option maxRecDepth 100000 in
set_option maxHeartbeats 4000000 in
theorem Guess_c (Aa Ab : Option Addr) (c c' a b m BB : Nat) (w : World) (hn : nd W a = m + 2) (hL : m ≤ 100000000) (hab : b ≤ a) (hr : Row w BB Aa a (m + 2)) (hr' : Row w BB Ab b (nd W b)) (hBs : BB ≤ w.heap.size) :
    Calls Try.prog 104 #[.slice Aa (m + 2) c, .slice Ab (nd W b) c'] w (GuessPost a b w) := by
  obtain ⟨t, ht⟩ : ∃ t, t = dgt W a (m + 1) := ⟨_, rfl⟩
  have htw : t < 18446744073709551616 := by rw [ht]; exact wd_lt _ _
  have ht0 : t ≠ 0 := by
    have := dgt_top (b := W) (n := a) W2 (fun c => by rw [c, nd_zero] at hn; omega)
    rw [hn, show m + 2 - 1 = m + 1 by omega, ← ht] at this
    exact this
  have ht64 : nd 2 t ≤ 64 := nd_le (by omega) (by rw [show (2 : Nat) ^ 64 = 18446744073709551616 by rfl]; exact htw)
  have ht1 : nd 2 t ≠ 0 := fun c => ht0 ((nd_eq_zero (by omega)).1 c)
  obtain ⟨s, hs⟩ : ∃ s, nd 2 t + s = 64 := ⟨64 - nd 2 t, by omega⟩
  have hs64 : s < 64 := by omega
  have KLZ : Hid (∀ w, Calls Try.prog 98 #[.int .u64 (t : Nat)] w fun e w' => e = .returned (.int .i64 (s : Nat)) ∧ w = w') := Lib.hid (fun w => by
    refine (Try.bits_LeadingZeros64 _ _ (by omega) (by omega)).mono ?_
    rintro e w' ⟨rfl, rfl⟩
    refine ⟨ret_int ?_, rfl⟩
    rw [Int.toNat_natCast, bitLen_nd htw]; omega)
  obtain ⟨hV1, -⟩ := normed (b := a) (n := m + 1) (s := s) (by omega) (by rw [← ht]; exact hs)
  obtain ⟨H, hH, hhigh⟩ := guess_high a m s hs64 hV1
  have hgA := guess_word a m s hs64
  have hgB := guess_word b m s hs64
  have hgB0 := guess_word0 b m s hs64
  obtain ⟨TA, hTA⟩ : ∃ x, x = dgt W (a * 2 ^ s) (m + 1) := ⟨_, rfl⟩
  obtain ⟨TB, hTB⟩ : ∃ x, x = dgt W (b * 2 ^ s) (m + 1) := ⟨_, rfl⟩
  have hTAw : TA < 18446744073709551616 := by rw [hTA]; exact wd_lt _ _
  have eA : TA = a / H := by rw [hTA]; exact hhigh a (Nat.le_refl _)
  have eB : TB = b / H := by rw [hTB]; exact hhigh b hab
  have hBA : TB ≤ TA := by rw [eA, eB]; exact Nat.div_le_div_right hab
  rw [← hTA] at hgA
  rw [← hTB] at hgB hgB0
  obtain ⟨ga, rfl, hga, hca1⟩ := hr.at_ (k := m + 1) (by omega)
  obtain ⟨ga', e, -, hca0⟩ := hr.at_ (k := m) (by omega)
  obtain rfl : ga = ga' := congrArg Addr.block (Option.some.inj e)
  rw [← ht] at hca1 hgA
  obtain ⟨n, hn2⟩ : ∃ n, n = m + 2 := ⟨_, rfl⟩
  obtain ⟨m1, hm1⟩ : ∃ m1, m1 = m + 1 := ⟨_, rfl⟩
  have hI1 : (n : Int) - 1 = (m1 : Int) := by omega
  have hI2 : (n : Int) - 2 = (m : Int) := by omega
  have hm1n : m1 < n := by omega
  have hmn : m < n := by omega
  have hnL : n ≤ 100000002 := by omega
  have HM1 := Lib.hid hm1
  have HN2 := Lib.hid hn2
  rw [← hm1] at hca1 hgB hgB0
  rw [← hn2]
  have hsI : (64 : Int) - (s : Int) = ((64 - s : Nat) : Int) := by omega
  have HGA := Lib.hid hgA
  have HEA := Lib.hid eA
  have HEB := Lib.hid eB
  have HBA := Lib.hid hBA
  have HT0 := Lib.hid ht0
  have HR' := Lib.hid hr'
  have HGB := Lib.hid hgB
  have HGB0 := Lib.hid hgB0
  have HBS := Lib.hid hBs
  have HH := Lib.hid hH
  have HN := Lib.hid hn
  have HAB := Lib.hid hab
  clear hgA hgB hgB0 eA eB hBA hTA hTB hhigh hV1 ht0 ht64 ht1 hs ht hr hr' e hH hn hab hm1 hn2 hL
  go_enter Try.func104, Try.ntmps104
  go_upto_region 1 with fail
  have hb1 : Below w.heap.size w (w.alloc (.cells #[.int .u64 0, .int .u64 0, .int .u64 0, .int .u64 0, .bool false] 119)) := (Below.refl _ _).alloc (Nat.le_refl _) _
  have hblk : Blk (w.alloc (.cells #[.int .u64 0, .int .u64 0, .int .u64 0, .int .u64 0, .bool false] 119)) w.heap.size 119 #[.int .u64 0, .int .u64 0, .int .u64 0, .int .u64 0, .bool false] := by
    exact Blk.new _ _ _
  have hsz : (w.alloc (.cells #[.int .u64 0, .int .u64 0, .int .u64 0, .int .u64 0, .bool false] 119)).heap.size = w.heap.size + 1 := by simp
  generalize w.alloc (.cells #[.int .u64 0, .int .u64 0, .int .u64 0, .int .u64 0, .bool false] 119) = w1 at *
  have hgw : ga < w.heap.size := Nat.lt_of_lt_of_le hga HBS.out
  have hc1 := (hb1.cell (p := ⟨ga, m1, none⟩) hgw).trans hca1
  have hc0 := (hb1.cell (p := ⟨ga, m, none⟩) hgw).trans hca0
  clear hca1 hca0
  have HBLK := Lib.hid hblk
  clear hblk
  go_upto_region 3 with (go_at_call 98; refine (KLZ.out _).mono ?_; rintro e w' ⟨rfl, rfl⟩)
  have hor := HGA.out
  go_quiet (fail)
  have hb2 := below_drewN hb1 nq
  have HB2 : Hid (Blk (w1.drewN nq) w.heap.size 119 #[.int .u64 0, .int .u64 0, .int .u64 0, .int .u64 0, .bool false]) := Lib.hid (HBLK.out.drewN nq)
  have hsz2 : (w1.drewN nq).heap.size = w.heap.size + 1 := hsz
  generalize w1.drewN nq = w2 at *
  clear hc1 hc0 hb1 hsz HBLK hor
  have hbB := hb2.mono HBS.out
  obtain ⟨L, hL⟩ : ∃ L, L = nd W b := ⟨_, rfl⟩
  have HL := Lib.hid hL
  have hLb : L ≤ n := by rw [hL, HN2.out, ← HN.out]; exact nd_mono W2 HAB.out
  rw [← hL] at HR' ⊢
  clear hL
  go_upto_block 0 with fail
  go_cut [8] (fun low wc => low = .int .u64 (TB : Nat) ∧ Below w2.heap.size w2 wc)
  case first =>
    have hcase : L = n ∨ L = m1 ∨ L < m1 := by have := HM1.out; have := HN2.out; omega
    rcases hcase with h1 | h1 | h1
    · subst h1
      obtain ⟨gb, rfl, hgb, hcb1⟩ := HR'.out.at_ hm1n
      obtain ⟨gb', e, -, hcb0⟩ := HR'.out.at_ hmn
      obtain rfl : gb = gb' := congrArg Addr.block (Option.some.inj e)
      have hd1 := (hbB.cell (p := ⟨gb, m1, none⟩) hgb).trans hcb1
      have hd0 := (hbB.cell (p := ⟨gb, m, none⟩) hgb).trans hcb0
      have hor := HGB.out
      clear hcb1 hcb0 e hgb
      go_wp2_with fail
      go_quiet (fail)
      go_wp2
      go_meet
      case rel => exact ⟨rfl, below_drewN (Below.refl _ _) _⟩
    · subst h1
      have hne : ((L : Int) == (n : Int)) = false := by rw [beq_eq_false_iff_ne]; omega
      obtain ⟨gb, rfl, hgb, hcb0⟩ := HR'.out.at_ (k := m) (by have := HM1.out; omega)
      have hd0 := (hbB.cell (p := ⟨gb, m, none⟩) hgb).trans hcb0
      have hor := HGB0.out (dgt_big W2 (by rw [← HL.out]; exact Nat.le_refl _))
      clear hcb0 hgb
      go_wp2
      go_meet
      case rel => exact ⟨rfl, Below.refl _ _⟩
    · have hne : ((L : Int) == (n : Int)) = false := by rw [beq_eq_false_iff_ne]; omega
      have hne1 : ((L : Int) == (m1 : Int)) = false := by rw [beq_eq_false_iff_ne]; omega
      have hor := HGB0.out (dgt_big W2 (by rw [← HL.out]; omega))
      have hz : dgt W b m = 0 := dgt_big W2 (by rw [← HL.out]; have := HM1.out; omega)
      have hTB0 : TB = 0 := by
        rw [hz] at hor
        have : ((0 : Nat) : Int) / 2 ^ (64 - s) = 0 := by simp
        omega
      have HTB := Lib.hid hTB0
      clear hor hz hTB0
      go_wp2
      go_meet
      case rel => exact ⟨by rw [HTB.out]; rfl, Below.refl _ _⟩
  case rest =>
    obtain ⟨rfl, hbc⟩ := hcut
    have HBC : Hid (Blk _ w.heap.size 119 #[.int .u64 0, .int .u64 0, .int .u64 0, .int .u64 0, .bool false]) := Lib.hid (HB2.out.below hbc (by omega))
    have hb3 : Below w.heap.size w _ := hb2.trans (hbc.mono hb2.size)
    clear HB2 hbB hbc hsz2 hb2
    go_wp2_with fail
    have hbn := hb3.alloc (o := .cells #[.int .u64 0, .int .u64 0, .int .u64 1, .int .u64 0, .bool false] 119) hb3.size
    have HBN : Hid (Blk _ wc.heap.size 119 #[.int .u64 0, .int .u64 0, .int .u64 1, .int .u64 0, .bool false]) := Lib.hid (Blk.new wc 119 #[.int .u64 0, .int .u64 0, .int .u64 1, .int .u64 0, .bool false])
    have HBC2 := Lib.hid (HBC.out.alloc (.cells #[.int .u64 0, .int .u64 0, .int .u64 1, .int .u64 0, .bool false] 119))
    have hG : w.heap.size < wc.heap.size := HBC.out.lt
    have HG := Lib.hid (Guess.first (a := a) (b := b) HBA.out)
    have hTBw : TB < 18446744073709551616 := Nat.lt_of_le_of_lt HBA.out hTAw
    clear HBC hb3
    obtain ⟨G, hGe⟩ : ∃ G, G = wc.heap.size := ⟨_, rfl⟩
    rw [← hGe] at HBN hG ⊢
    generalize wc.alloc (.cells #[.int .u64 0, .int .u64 0, .int .u64 1, .int .u64 0, .bool false] 119) = wn at *
    clear hGe
    go_loopw [7, 8, 10, 11] (fun tp lo uu vv wr => ∃ (top low u2 v2 u0 v0 u1 v1 : Nat) (even : Bool), tp = .int .u64 (top : Nat) ∧ lo = .int .u64 (low : Nat) ∧ uu = .int .u64 (u2 : Nat) ∧ vv = .int .u64 (v2 : Nat) ∧ Hid (Guess a b TA TB u0 v0 u1 v1 u2 v2 top low even) ∧
      top < 18446744073709551616 ∧ low < 18446744073709551616 ∧ u2 < 18446744073709551616 ∧ v2 < 18446744073709551616 ∧ Hid (u0 < 18446744073709551616 ∧ v0 < 18446744073709551616) ∧ u1 < 18446744073709551616 ∧ v1 < 18446744073709551616 ∧
      Hid (Blk wr G 119 #[.int .u64 (u0 : Nat), .int .u64 (v0 : Nat), .int .u64 (u1 : Nat), .int .u64 (v1 : Nat), .bool even]) ∧ Hid (Blk wr w.heap.size 119 #[.int .u64 0, .int .u64 0, .int .u64 0, .int .u64 0, .bool false]) ∧ Below w.heap.size w wr) (fun _ lo _ _ _ => (intOf lo).toNat)
    case atStart => exact ⟨TA, TB, 0, 1, 0, 0, 1, 0, false, rfl, rfl, rfl, rfl, HG, hTAw, hTBw, by omega, by omega, Lib.hid ⟨by omega, by omega⟩, by omega, by omega, HBN, HBC2, hbn⟩
    case round =>
      obtain ⟨top, low, u2, v2, u0, v0, u1, v1, even, rfl, rfl, rfl, rfl, hgs, htop, hlow, hu2, hv2, huv0, hu1, hv1, hbk, hbz, hbw⟩ := hrel
      have hc0 : wr.cell? ⟨G, 0, none⟩ = some (.int .u64 (u0 : Nat)) := hbk.out.cell 0
      have hc1 : wr.cell? ⟨G, 1, none⟩ = some (.int .u64 (v0 : Nat)) := hbk.out.cell 1
      have hc2 : wr.cell? ⟨G, 2, none⟩ = some (.int .u64 (u1 : Nat)) := hbk.out.cell 2
      have hc3 : wr.cell? ⟨G, 3, none⟩ = some (.int .u64 (v1 : Nat)) := hbk.out.cell 3
      have hc4 : wr.cell? ⟨G, 4, none⟩ = some (.bool even) := hbk.out.cell 4
      have hf0 := hbk.out.frozen 0
      have hf1 := hbk.out.frozen 1
      have hf2 := hbk.out.frozen 2
      have hf3 := hbk.out.frozen 3
      have hf4 := hbk.out.frozen 4
      by_cases c1 : v2 ≤ low
      · obtain ⟨b1, b2, b3, b4, b5, b6, b7, b8⟩ := hgs.out.bounds c1 HBA.out
        obtain ⟨sm, hsm⟩ : ∃ sm, sm = v1 + v2 := ⟨_, rfl⟩
        obtain ⟨df, hdf⟩ : ∃ df, df = top - low := ⟨_, rfl⟩
        have hsmI : IntKind.u64.wrap ((v1 : Int) + (v2 : Int)) = (sm : Int) := by rw [IntKind.wrap_u64]; omega
        have hdfI : IntKind.u64.wrap ((top : Int) - (low : Int)) = (df : Int) := by rw [IntKind.wrap_u64]; omega
        by_cases c2 : sm ≤ df
        · obtain ⟨q, hq⟩ : ∃ q, q = top / low := ⟨_, rfl⟩
          obtain ⟨r, hr⟩ : ∃ r, r = top % low := ⟨_, rfl⟩
          obtain ⟨d1, d2, d3⟩ := b8 q hq
          have HNX := hgs.out.step HAB.out HEA.out HEB.out HH.out c1 (by omega) hq
          rw [← hr] at HNX
          have hl0 : low ≠ 0 := by have := hgs.out.2.1; omega
          have hrl : r < low := by rw [hr]; exact Nat.mod_lt _ (Nat.pos_of_ne_zero hl0)
          have hnlt : ¬ ((top - low : Nat) : Int) < (v1 : Int) + (v2 : Int) := by omega
          have hqI : ((top : Int) / (low : Int)) = (q : Int) := by rw [hq, Int.natCast_ediv]
          have hqT : ((top : Int).tdiv (low : Int)) = (q : Int) := by rw [Int.tdiv_eq_ediv_of_nonneg (by omega)]; exact hqI
          have hrI : ((top : Int) % (low : Int)) = (r : Int) := by rw [hr, Int.natCast_emod]
          have hrT : ((top : Int).tmod (low : Int)) = (r : Int) := by rw [Int.tmod_eq_emod_of_nonneg (by omega)]; exact hrI
          have hl0I : ((low : Int) == 0) = false := by rw [beq_eq_false_iff_ne]; omega
          have HQ := Lib.hid hq
          have HRR := Lib.hid hr
          have HNX2 := Lib.hid HNX
          have HD := Lib.hid (And.intro d1 d2)
          have hq64 : q < 18446744073709551616 := by omega
          have hr64 : r < 18446744073709551616 := by omega
          have HRL := Lib.hid hrl
          clear hsmI hdfI hsm hdf c2 b1 b2 b3 b4 b7 b8 HNX hq hr d1 d2 hrl
          clear sm df
          go_upto_region 15 with (go_quiet (fail))
          have HK0 := Lib.hid (hbk.out.drewN nq)
          have HZ0 := Lib.hid (hbz.out.drewN nq)
          have hbw0 := below_drewN hbw nq
          clear hbk hbz hbw hc0 hc1 hc2 hc3 hc4 hf0 hf1 hf2 hf3 hf4 hqI hqT hrI hrT hl0I hnlt
          generalize wr.drewN nq = wd at *
          obtain ⟨pu, hpu⟩ : ∃ pu, pu = q * u2 := ⟨_, rfl⟩
          obtain ⟨pv, hpv⟩ : ∃ pv, pv = q * v2 := ⟨_, rfl⟩
          rw [← hpu, ← hpv] at HD HNX2
          obtain ⟨un, hun⟩ : ∃ un, un = u1 + pu := ⟨_, rfl⟩
          obtain ⟨vn, hvn⟩ : ∃ vn, vn = v1 + pv := ⟨_, rfl⟩
          rw [← hun, ← hvn] at HD HNX2
          have hunw : un < 18446744073709551616 := Nat.lt_of_le_of_lt HD.out.1 hTAw
          have hvnw : vn < 18446744073709551616 := Nat.lt_of_le_of_lt HD.out.2 hTAw
          have hpuI : IntKind.u64.wrap ((q : Int) * (u2 : Int)) = (pu : Int) := by rw [← Int.natCast_mul, ← hpu, IntKind.wrap_u64]; omega
          have hpvI : IntKind.u64.wrap ((q : Int) * (v2 : Int)) = (pv : Int) := by rw [← Int.natCast_mul, ← hpv, IntKind.wrap_u64]; omega
          have hpuM : (q : Int) * (u2 : Int) = (pu : Int) := by rw [← Int.natCast_mul, ← hpu]
          have hpvM : (q : Int) * (v2 : Int) = (pv : Int) := by rw [← Int.natCast_mul, ← hpv]
          have hunI : IntKind.u64.wrap ((u1 : Int) + (pu : Int)) = (un : Int) := by rw [IntKind.wrap_u64]; omega
          have hvnI : IntKind.u64.wrap ((v1 : Int) + (pv : Int)) = (vn : Int) := by rw [IntKind.wrap_u64]; omega
          have hunM : (u1 : Int) + (pu : Int) = (un : Int) := by omega
          have hvnM : (v1 : Int) + (pv : Int) = (vn : Int) := by omega
          have hpuw : pu < 18446744073709551616 := by omega
          have hpvw : pv < 18446744073709551616 := by omega
          clear hpu hpv hun hvn
          have e2 : wd.cell? ⟨G, 2, none⟩ = some (.int .u64 (u1 : Nat)) := HK0.out.cell 2
          have e0 : wd.cell? ⟨G, 0, none⟩ = some (.int .u64 (u0 : Nat)) := HK0.out.cell 0
          have g0 := HK0.out.frozen 0
          have g2 := HK0.out.frozen 2
          have HK1 : Hid (Blk _ G 119 #[.int .u64 (u1 : Nat), .int .u64 (v0 : Nat), .int .u64 (u2 : Nat), .int .u64 (v1 : Nat), .bool even]) := Lib.hid ((HK0.out.set_ 0 (.int .u64 (u1 : Nat))).set_ 2 (.int .u64 (u2 : Nat)))
          have HZ1 := Lib.hid ((HZ0.out.far (p := ⟨G, 0, none⟩) (show w.heap.size ≠ G by omega) (.int .u64 (u1 : Nat))).far (p := ⟨G, 2, none⟩) (show w.heap.size ≠ G by omega) (.int .u64 (u2 : Nat)))
          have hbw1 := (hbw0.setCell (p := ⟨G, 0, none⟩) (show w.heap.size ≤ G by omega) (.int .u64 (u1 : Nat))).setCell (p := ⟨G, 2, none⟩) (show w.heap.size ≤ G by omega) (.int .u64 (u2 : Nat))
          clear HK0 HZ0 hbw0
          go_upto_region 16 with fail
          generalize (wd.setCell ⟨G, 0, none⟩ (.int .u64 (u1 : Nat))).setCell ⟨G, 2, none⟩ (.int .u64 (u2 : Nat)) = wf at *
          clear e0 e2 g0 g2
          have e3 : wf.cell? ⟨G, 3, none⟩ = some (.int .u64 (v1 : Nat)) := HK1.out.cell 3
          have e1 : wf.cell? ⟨G, 1, none⟩ = some (.int .u64 (v0 : Nat)) := HK1.out.cell 1
          have g1 := HK1.out.frozen 1
          have g3 := HK1.out.frozen 3
          have HK2 : Hid (Blk _ G 119 #[.int .u64 (u1 : Nat), .int .u64 (v1 : Nat), .int .u64 (u2 : Nat), .int .u64 (v2 : Nat), .bool even]) := Lib.hid ((HK1.out.set_ 1 (.int .u64 (v1 : Nat))).set_ 3 (.int .u64 (v2 : Nat)))
          have HZ2 := Lib.hid ((HZ1.out.far (p := ⟨G, 1, none⟩) (show w.heap.size ≠ G by omega) (.int .u64 (v1 : Nat))).far (p := ⟨G, 3, none⟩) (show w.heap.size ≠ G by omega) (.int .u64 (v2 : Nat)))
          have hbw2 := (hbw1.setCell (p := ⟨G, 1, none⟩) (show w.heap.size ≤ G by omega) (.int .u64 (v1 : Nat))).setCell (p := ⟨G, 3, none⟩) (show w.heap.size ≤ G by omega) (.int .u64 (v2 : Nat))
          clear HK1 HZ1 hbw1
          go_upto_region 17 with fail
          generalize (wf.setCell ⟨G, 1, none⟩ (.int .u64 (v1 : Nat))).setCell ⟨G, 3, none⟩ (.int .u64 (v2 : Nat)) = wh at *
          clear e1 e3 g1 g3
          have e4 : wh.cell? ⟨G, 4, none⟩ = some (.bool even) := HK2.out.cell 4
          have g4 := HK2.out.frozen 4
          have HK3 : Hid (Blk _ G 119 #[.int .u64 (u1 : Nat), .int .u64 (v1 : Nat), .int .u64 (u2 : Nat), .int .u64 (v2 : Nat), .bool (!even)]) := Lib.hid (HK2.out.set_ 4 (.bool (!even)))
          have HZ3 := Lib.hid (HZ2.out.far (p := ⟨G, 4, none⟩) (show w.heap.size ≠ G by omega) (.bool (!even)))
          have hbw3 := hbw2.setCell (p := ⟨G, 4, none⟩) (show w.heap.size ≤ G by omega) (.bool (!even))
          clear HK2 HZ2 hbw2
          go_wp2_with fail
          go_roundw
          case rel => exact ⟨low, r, un, vn, u1, v1, u2, v2, !even, rfl, rfl, rfl, rfl, HNX2, hlow, hr64, hunw, hvnw, Lib.hid ⟨hu1, hv1⟩, hu2, hv2, HK3, HZ3, hbw3⟩
          case measure => simp [intOf]; have := HRL.out; omega
        · have hlt : ((top - low : Nat) : Int) < (v1 : Int) + (v2 : Int) := by omega
          clear hsmI hdfI hsm hdf c2 b1 b2 b3 b4 b7 b8
          clear sm df
          have z0 : wr.cell? ⟨w.heap.size, 0, none⟩ = some (.int .u64 0) := hbz.out.cell 0
          have z1 : wr.cell? ⟨w.heap.size, 1, none⟩ = some (.int .u64 0) := hbz.out.cell 1
          have z2 : wr.cell? ⟨w.heap.size, 2, none⟩ = some (.int .u64 0) := hbz.out.cell 2
          have z3 : wr.cell? ⟨w.heap.size, 3, none⟩ = some (.int .u64 0) := hbz.out.cell 3
          have z4 : wr.cell? ⟨w.heap.size, 4, none⟩ = some (.bool false) := hbz.out.cell 4
          have y0 := hbz.out.frozen 0
          have y1 := hbz.out.frozen 1
          have y2 := hbz.out.frozen 2
          have y3 := hbz.out.frozen 3
          have y4 := hbz.out.frozen 4
          have hend := ((((hbz.out.set_ 0 (.int .u64 (u0 : Nat))).set_ 1 (.int .u64 (v0 : Nat))).set_ 2 (.int .u64 (u1 : Nat))).set_ 3 (.int .u64 (v1 : Nat))).set_ 4 (.bool even)
          have HEND : Hid (Blk _ w.heap.size 119 #[.int .u64 (u0 : Nat), .int .u64 (v0 : Nat), .int .u64 (u1 : Nat), .int .u64 (v1 : Nat), .bool even]) := Lib.hid hend
          have hbe := ((((hbw.setCell (p := ⟨w.heap.size, 0, none⟩) (Nat.le_refl _) (.int .u64 (u0 : Nat))).setCell (p := ⟨w.heap.size, 1, none⟩) (Nat.le_refl _) (.int .u64 (v0 : Nat))).setCell (p := ⟨w.heap.size, 2, none⟩) (Nat.le_refl _) (.int .u64 (u1 : Nat))).setCell (p := ⟨w.heap.size, 3, none⟩) (Nat.le_refl _) (.int .u64 (v1 : Nat))).setCell (p := ⟨w.heap.size, 4, none⟩) (Nat.le_refl _) (.bool even)
          have HBE := Lib.hid hbe
          clear hend hbe
          go_wp2_with fail
          generalize ((((wr.setCell ⟨w.heap.size, 0, none⟩ (.int .u64 (u0 : Nat))).setCell ⟨w.heap.size, 1, none⟩ (.int .u64 (v0 : Nat))).setCell ⟨w.heap.size, 2, none⟩ (.int .u64 (u1 : Nat))).setCell ⟨w.heap.size, 3, none⟩ (.int .u64 (v1 : Nat))).setCell ⟨w.heap.size, 4, none⟩ (.bool even) = we at *
          have k0 : we.cell? ⟨w.heap.size, 0, none⟩ = some (.int .u64 (u0 : Nat)) := HEND.out.cell 0
          have k1 : we.cell? ⟨w.heap.size, 1, none⟩ = some (.int .u64 (v0 : Nat)) := HEND.out.cell 1
          have k2 : we.cell? ⟨w.heap.size, 2, none⟩ = some (.int .u64 (u1 : Nat)) := HEND.out.cell 2
          have k3 : we.cell? ⟨w.heap.size, 3, none⟩ = some (.int .u64 (v1 : Nat)) := HEND.out.cell 3
          have k4 : we.cell? ⟨w.heap.size, 4, none⟩ = some (.bool even) := HEND.out.cell 4
          refine bodyPost_ret (v := .agg #[.int .u64 (u0 : Nat), .int .u64 (v0 : Nat), .int .u64 (u1 : Nat), .int .u64 (v1 : Nat), .bool even]) (by simp [results, Try.results104, go_sem, k0, k1, k2, k3, k4]) rfl ?_
          exact ⟨u0, v0, u1, v1, even, rfl, huv0.out.1, huv0.out.2, hu1, hv1, fun hv => held_of hgs.out hv, HBE.out⟩
      · have hlt : (low : Int) < (v2 : Int) := by omega
        have z0 : wr.cell? ⟨w.heap.size, 0, none⟩ = some (.int .u64 0) := hbz.out.cell 0
        have z1 : wr.cell? ⟨w.heap.size, 1, none⟩ = some (.int .u64 0) := hbz.out.cell 1
        have z2 : wr.cell? ⟨w.heap.size, 2, none⟩ = some (.int .u64 0) := hbz.out.cell 2
        have z3 : wr.cell? ⟨w.heap.size, 3, none⟩ = some (.int .u64 0) := hbz.out.cell 3
        have z4 : wr.cell? ⟨w.heap.size, 4, none⟩ = some (.bool false) := hbz.out.cell 4
        have y0 := hbz.out.frozen 0
        have y1 := hbz.out.frozen 1
        have y2 := hbz.out.frozen 2
        have y3 := hbz.out.frozen 3
        have y4 := hbz.out.frozen 4
        have hend := ((((hbz.out.set_ 0 (.int .u64 (u0 : Nat))).set_ 1 (.int .u64 (v0 : Nat))).set_ 2 (.int .u64 (u1 : Nat))).set_ 3 (.int .u64 (v1 : Nat))).set_ 4 (.bool even)
        have HEND : Hid (Blk _ w.heap.size 119 #[.int .u64 (u0 : Nat), .int .u64 (v0 : Nat), .int .u64 (u1 : Nat), .int .u64 (v1 : Nat), .bool even]) := Lib.hid hend
        have hbe := ((((hbw.setCell (p := ⟨w.heap.size, 0, none⟩) (Nat.le_refl _) (.int .u64 (u0 : Nat))).setCell (p := ⟨w.heap.size, 1, none⟩) (Nat.le_refl _) (.int .u64 (v0 : Nat))).setCell (p := ⟨w.heap.size, 2, none⟩) (Nat.le_refl _) (.int .u64 (u1 : Nat))).setCell (p := ⟨w.heap.size, 3, none⟩) (Nat.le_refl _) (.int .u64 (v1 : Nat))).setCell (p := ⟨w.heap.size, 4, none⟩) (Nat.le_refl _) (.bool even)
        have HBE := Lib.hid hbe
        clear hend hbe
        go_wp2_with fail
        generalize ((((wr.setCell ⟨w.heap.size, 0, none⟩ (.int .u64 (u0 : Nat))).setCell ⟨w.heap.size, 1, none⟩ (.int .u64 (v0 : Nat))).setCell ⟨w.heap.size, 2, none⟩ (.int .u64 (u1 : Nat))).setCell ⟨w.heap.size, 3, none⟩ (.int .u64 (v1 : Nat))).setCell ⟨w.heap.size, 4, none⟩ (.bool even) = we at *
        have k0 : we.cell? ⟨w.heap.size, 0, none⟩ = some (.int .u64 (u0 : Nat)) := HEND.out.cell 0
        have k1 : we.cell? ⟨w.heap.size, 1, none⟩ = some (.int .u64 (v0 : Nat)) := HEND.out.cell 1
        have k2 : we.cell? ⟨w.heap.size, 2, none⟩ = some (.int .u64 (u1 : Nat)) := HEND.out.cell 2
        have k3 : we.cell? ⟨w.heap.size, 3, none⟩ = some (.int .u64 (v1 : Nat)) := HEND.out.cell 3
        have k4 : we.cell? ⟨w.heap.size, 4, none⟩ = some (.bool even) := HEND.out.cell 4
        refine bodyPost_ret (v := .agg #[.int .u64 (u0 : Nat), .int .u64 (v0 : Nat), .int .u64 (u1 : Nat), .int .u64 (v1 : Nat), .bool even]) (by simp [results, Try.results104, go_sem, k0, k1, k2, k3, k4]) rfl ?_
        exact ⟨u0, v0, u1, v1, even, rfl, huv0.out.1, huv0.out.2, hu1, hv1, fun hv => held_of hgs.out hv, HBE.out⟩
end Go.Proofs.Ytjcicbnjoffbhaa
set_option linter.unusedSimpArgs false
set_option linter.unusedVariables false
namespace Go.Proofs.Ytjcicbnjoffbhaa
open Go Go.RowKit Nt

/-- Two numbers with the divisor asked for, in the memory. -/
def GPair (a b : Nat) (va vb : Value) (x y : Nat) (w : World) : Prop :=
  ∃ (Ax Ay : Option Addr) (cx cy : Nat), va = .slice Ax (nd W x) cx ∧ vb = .slice Ay (nd W y) cy ∧ y ≤ x ∧ Nat.gcd x y = Nat.gcd a b ∧ nd W x ≤ 10000 ∧ nd W x ≤ cx ∧ nd W y ≤ cy ∧ Row w w.heap.size Ax x (nd W x) ∧ Row w w.heap.size Ay y (nd W y)
set_option maxRecDepth 100000 in
set_option maxHeartbeats 4000000 in
theorem Gcd_c (A A' : Option Addr) (c c' a b : Nat) (w : World) (hL : nd W a ≤ 10000) (hL' : nd W b ≤ 10000) (hc : nd W a ≤ c) (hc' : nd W b ≤ c') (hr : Row w w.heap.size A a (nd W a)) (hr' : Row w w.heap.size A' b (nd W b)) :
    Calls Try.prog 84 #[.slice A (nd W a) c, .slice A' (nd W b) c'] w (NumPost (Nat.gcd a b) w) := by
  have hcm := Cmp_c A A' c c' a b w.heap.size w (by omega) (by omega) hr hr'
  have HR := Lib.hid hr
  have HR' := Lib.hid hr'
  have HL := Lib.hid hL
  have HL' := Lib.hid hL'
  have HC := Lib.hid hc
  have HC' := Lib.hid hc'
  have HCM := Lib.hid hcm
  clear hr hr' hL hL' hc hc' hcm
  go_enter Try.func84, Try.ntmps84
  go_upto_if 14 with (go_at_call 96; refine HCM.out.mono ?_; rintro e w1 ⟨rfl, nn, rfl⟩)
  have hb1 : Below w.heap.size w (w.drewN nn) := below_drewN (Below.refl _ _) nn
  have HR1 : Hid (Row (w.drewN nn) (w.drewN nn).heap.size A a (nd W a)) := Lib.hid (HR.out.drewN nn)
  have HR1' : Hid (Row (w.drewN nn) (w.drewN nn).heap.size A' b (nd W b)) := Lib.hid (HR'.out.drewN nn)
  generalize w.drewN nn = w1 at *
  go_cut [0, 1] (fun va vb wc => ∃ x y, Hid (GPair a b va vb x y wc) ∧ wc = w1)
  case first =>
    by_cases h : a < b
    · have hcv := cmpN_lt h
      go_wp2_with fail
      go_meet
      case rel => exact ⟨b, a, Lib.hid ⟨A', A, c', c, rfl, rfl, by omega, Nat.gcd_comm _ _, HL'.out, HC'.out, HC.out, HR1'.out, HR1.out⟩, rfl⟩
    · have hcv : cmpN a b = 0 ∨ cmpN a b = 1 := by
        rcases Nat.lt_or_ge b a with h2 | h2
        · exact Or.inr (cmpN_gt h2)
        · exact Or.inl (by rw [show a = b by omega]; exact cmpN_eq b)
      rcases hcv with hcv | hcv
      all_goals
        go_wp2_with fail
        go_meet
        case rel => exact ⟨a, b, Lib.hid ⟨A, A', c, c', rfl, rfl, by omega, rfl, HL.out, HC.out, HC'.out, HR1.out, HR1'.out⟩, rfl⟩
  case rest =>
    obtain ⟨x, y, hp, rfl⟩ := hcut
    clear HCM HR HR' HR1 HR1' HL HL' HC HC'
    have HP := hp
    obtain ⟨Ax, Ay, cx, cy, rfl, rfl, -⟩ := hp.out
    clear hp
    go_wp2_with fail
    go_loopg [0, 1] y (fun G va vb wr => ∃ x y, Hid (y ≤ G) ∧ Hid (GPair a b va vb x y wr) ∧ Below w.heap.size w wr)
    case atStart => exact ⟨x, y, Lib.hid (Nat.le_refl _), HP, hb1⟩
    case round =>
      clear HP
      obtain ⟨x, y, hG, hp, hbw⟩ := hrel
      obtain ⟨Ax, Ay, cx, cy, rfl, rfl, hyx, hg, hx, hcx, hcy, hrx, hry⟩ := hp.out
      have HG1 := Lib.hid hg
      have HYX := Lib.hid hyx
      have HRX := Lib.hid hrx
      have HRY := Lib.hid hry
      have HCX := Lib.hid hcx
      have HCY := Lib.hid hcy
      have HX := Lib.hid hx
      have hny : nd W y ≤ nd W x := nd_mono W2 hyx
      have HNY := Lib.hid hny
      have hy4 : nd W y ≤ 10000 := Nat.le_trans hny hx
      clear hp hyx hg hrx hry hcx hcy
      by_cases h1 : 1 < nd W y
      · obtain ⟨m, hm⟩ : ∃ m, nd W x = m + 2 := ⟨nd W x - 2, by omega⟩
        have hgu := Guess_c Ax Ay cx cy x y m _ _ hm (by omega) HYX.out (by rw [← hm]; exact HRX.out) HRY.out (Nat.le_refl _)
        rw [← hm] at hgu
        have HGU := Lib.hid hgu
        have hy0 : y ≠ 0 := fun c => by rw [c, nd_zero] at h1; omega
        have HY0 := Lib.hid hy0
        clear hgu hy0
        have HM := Lib.hid hm
        have h1I : (1 : Int) < (nd W y : Int) := by omega
        clear hm hx hny
        go_upto_region 4 with fail
        clear h1 h1I hy4
        go_wp2_with fail
        refine HGU.out.mono ?_
        rintro e w2 ⟨u0, v0, u1, v1, even, rfl, hu0, hv0, hu1, hv1, hheld, hb2⟩
        have HH := Lib.hid hheld
        have hbw2 := below_chain hbw hb2
        have HRX2 := Lib.hid ((HRX.out.below hb2).more hb2.size)
        have HRY2 := Lib.hid ((HRY.out.below hb2).more hb2.size)
        clear hheld hb2 HRX HRY HGU
        have HW := Lib.hid (And.intro hu0 (And.intro hv0 (And.intro hu1 hv1)))
        clear hu0 hv0 hu1 hv1
        go_upto_region 5 with fail
        have hal : Below w2.heap.size w2 (w2.alloc (.cells #[.int .u64 (u0 : Nat), .int .u64 (v0 : Nat), .int .u64 (u1 : Nat), .int .u64 (v1 : Nat), .bool even] 119)) := (Below.refl _ _).alloc (Nat.le_refl _) _
        have HBK : Hid (Blk (w2.alloc (.cells #[.int .u64 (u0 : Nat), .int .u64 (v0 : Nat), .int .u64 (u1 : Nat), .int .u64 (v1 : Nat), .bool even] 119)) w2.heap.size 119 #[.int .u64 (u0 : Nat), .int .u64 (v0 : Nat), .int .u64 (u1 : Nat), .int .u64 (v1 : Nat), .bool even]) := Lib.hid (Blk.new _ _ _)
        have HRX3 := Lib.hid ((HRX2.out.below hal).more hal.size)
        have HRY3 := Lib.hid ((HRY2.out.below hal).more hal.size)
        have hbw3 := below_chain hbw2 hal
        clear hal HRX2 HRY2 hbw2
        obtain ⟨g, hge⟩ : ∃ g, g = w2.heap.size := ⟨_, rfl⟩
        rw [← hge] at HBK ⊢
        generalize w2.alloc (.cells #[.int .u64 (u0 : Nat), .int .u64 (v0 : Nat), .int .u64 (u1 : Nat), .int .u64 (v1 : Nat), .bool even] 119) = w3 at *
        clear hge
        have k1 : w3.cell? ⟨g, 1, none⟩ = some (.int .u64 (v0 : Nat)) := HBK.out.cell 1
        by_cases hv : v0 = 0
        · subst hv
          have HDV := Lib.hid (Div_all Ax Ay cx cy x y w3 HY0.out (by have := HX.out; omega) (by have := HX.out; have := HNY.out; omega) HRX3.out HRY3.out)
          go_wp2_with fail
          refine HDV.out.mono ?_
          rintro e w4 ⟨A3, c3, A4, c4, rfl, hc3, hc4, hr3, hr4, hb4⟩
          have hmod := Nat.mod_lt x (Nat.pos_of_ne_zero HY0.out)
          have HP2 : Hid (GPair a b (.slice Ay (nd W y) cy) (.slice A4 (nd W (x % y)) c4) y (x % y) w4) := Lib.hid ⟨Ay, A4, cy, c4, rfl, rfl, by omega, by rw [← HG1.out, Nat.gcd_comm x y, Nat.gcd_rec y x, Nat.gcd_comm], by have := HX.out; have := HNY.out; omega, HCY.out, hc4, (HRY3.out.below hb4).more hb4.size, hr4⟩
          have hbw4 := below_chain hbw3 hb4
          have HMOD := Lib.hid hmod
          clear hmod hc3 hc4 hr3 hr4 hb4
          go_wp2_with fail
          go_roundg (x % y)
          case rel => exact ⟨y, x % y, Lib.hid (Nat.le_refl _), HP2, hbw4⟩
          case measure => have := HMOD.out; have := hG.out; omega
        · obtain ⟨X, Y, hYX, -, hXx, hYy, hgg, hE, hO⟩ := HH.out hv
          have k0 : w3.cell? ⟨g, 0, none⟩ = some (.int .u64 (u0 : Nat)) := HBK.out.cell 0
          have k2 : w3.cell? ⟨g, 2, none⟩ = some (.int .u64 (u1 : Nat)) := HBK.out.cell 2
          have k3 : w3.cell? ⟨g, 3, none⟩ = some (.int .u64 (v1 : Nat)) := HBK.out.cell 3
          have k4 : w3.cell? ⟨g, 4, none⟩ = some (.bool even) := HBK.out.cell 4
          have hvI : ((v0 : Int) == 0) = false := by rw [beq_eq_false_iff_ne]; omega
          have HYy := Lib.hid (hYy hv)
          have HGG := Lib.hid hgg
          have HYX2 := Lib.hid hYX
          have HXx := Lib.hid hXx
          obtain ⟨q0, q1, q2, q3⟩ := HW.out
          have HDO := Lib.hid (Do_c Ax Ay cx cy x y u0 v0 u1 v1 w3.heap.size even w3 (by have := HX.out; omega) (by have := HX.out; have := HNY.out; omega) q0 q1 q2 q3 X Y hE hO HRX3.out HRY3.out (Nat.le_refl _))
          clear hYX hXx hYy hgg hE hO q0 q1 q2 q3 HH
          go_wp2_with fail
          refine HDO.out.mono ?_
          rintro e w4 ⟨A3, c3, A4, c4, rfl, hc3, hc4, hr3, hr4, hb4⟩
          have HP2 : Hid (GPair a b (.slice A3 (nd W X) c3) (.slice A4 (nd W Y) c4) X Y w4) := Lib.hid ⟨A3, A4, c3, c4, rfl, rfl, by have := HYX2.out; omega, HGG.out.trans HG1.out, Nat.le_trans (nd_mono W2 HXx.out) HX.out, hc3, hc4, hr3, hr4⟩
          have hbw4 := below_chain hbw3 hb4
          clear hc3 hc4 hr3 hr4 hb4
          go_wp2_with fail
          go_roundg Y
          case rel => exact ⟨X, Y, Lib.hid (Nat.le_refl _), HP2, hbw4⟩
          case measure => have := HYy.out; have := hG.out; omega
      · by_cases hy0 : y = 0
        · subst hy0
          have HGX : Hid (x = Nat.gcd a b) := Lib.hid (by have := HG1.out; rwa [Nat.gcd_zero_right] at this)
          have e0 : nd W 0 = 0 := nd_zero _
          rw [e0]
          obtain ⟨i0, hi0, hz0, hz1, hz2⟩ := info_parts (P := Try.prog) (e := 23) (z := .int .u64 0) (size := 1) (bytes := 8) (by kernel_rfl)
          clear h1 hx hny hy4 HRY HNY HCY e0
          go_wp2_with (at_builtin; go_loud (refine wpList_appWl _ rfl (.const (.slice none 0 0)) (.tmp 44) _ rfl 23 i0 Try.underlying86 hi0 hz0 hz1 hz2 x Ax (nd W x) cx _ rfl rfl HRX.out (by have := HX.out; omega) ?_); intro A2 c2 w2 hc2 hc22 hr2 hb2; have HR2 := Lib.hid hr2; clear hr2)
          go_ret
          rw [← HGX.out]
          exact NumPost.mk hc2 HR2.out (below_chain hbw hb2)
        · have hny1 : nd W y = 1 := by
            have : nd W y ≠ 0 := fun c => hy0 ((nd_eq_zero W2).1 c)
            omega
          obtain ⟨o1, o2, o3⟩ := one_word hny1
          obtain ⟨gy, e, hgy, hcell⟩ := HRY.out.at_ (k := 0) (by omega)
          rw [o1] at hcell
          have HTK := Lib.hid (Take_c Ax cx x y _ _ hy0 o3 (by have := HX.out; omega) HRX.out (Nat.le_refl _))
          have HY0 := Lib.hid hy0
          have HW := Lib.hid o3
          subst e
          rw [hny1]
          clear h1 hny1 hx hny hy4 HRY HNY HCY o1 o2 o3 hy0
          go_upto_region 11 with fail
          go_wp2_with fail
          refine HTK.out.mono ?_
          rintro e w4 ⟨A3, c3, rfl, -, -, -, -, hb4⟩
          have hc4 := (hb4.cell (p := ⟨gy, 0, none⟩) hgy).trans hcell
          have hbw4 := below_chain hbw hb4
          have HGG : Hid (Nat.gcd (x % y) y = Nat.gcd a b) := Lib.hid (by rw [← HG1.out, Nat.gcd_comm x y, Nat.gcd_rec y x])
          have hrw : x % y < 18446744073709551616 := Nat.lt_of_lt_of_le (Nat.mod_lt _ (Nat.pos_of_ne_zero HY0.out)) (Nat.le_of_lt HW.out)
          obtain ⟨r, hr⟩ : ∃ r, r = x % y := ⟨_, rfl⟩
          rw [← hr] at HGG hrw ⊢
          have HYW := Lib.hid HW.out
          clear hcell hb4 hbw HTK hr
          have hyw := HW.out
          go_wp2_with fail
          clear hc4
          go_loopw [9, 10] (fun vp vq wr => ∃ p q : Nat, vp = .int .u64 (p : Nat) ∧ vq = .int .u64 (q : Nat) ∧ p < 18446744073709551616 ∧ q < 18446744073709551616 ∧ Hid (Nat.gcd p q = Nat.gcd a b) ∧ Below w.heap.size w wr) (fun vp _ _ => (intOf vp).toNat)
          case atStart => exact ⟨r, y, rfl, rfl, hrw, hyw, HGG, hbw4⟩
          case round =>
            obtain ⟨p, q, rfl, rfl, hp, hq, hg2, hbw5⟩ := hrel
            by_cases hp0 : p = 0
            · subst hp0
              have HG2 : Hid (q = Nat.gcd a b) := Lib.hid (by have := hg2.out; rwa [Nat.gcd_zero_left] at this)
              go_wp2_with fail
              refine (Of_c q _ hq).mono ?_
              intro e w6 hpp
              obtain ⟨A6, c6, rfl, hc6, hr6, hb6⟩ := hpp.get
              go_wp2
              go_ret
              rw [← HG2.out]
              exact NumPost.mk hc6 hr6 (below_chain hbw5 hb6)
            · obtain ⟨t, ht⟩ : ∃ t, t = q % p := ⟨_, rfl⟩
              have htp : t < p := by rw [ht]; exact Nat.mod_lt _ (Nat.pos_of_ne_zero hp0)
              have hrI : ((q : Int) % (p : Int)) = (t : Int) := by rw [ht, Int.natCast_emod]
              have hrT : ((q : Int).tmod (p : Int)) = (t : Int) := by rw [Int.tmod_eq_emod_of_nonneg (by omega)]; exact hrI
              have hp0I : ((p : Int) == 0) = false := by rw [beq_eq_false_iff_ne]; omega
              have hp0J : ((p : Int) != 0) = true := by rw [bne_iff_ne]; omega
              have HG2 : Hid (Nat.gcd t p = Nat.gcd a b) := Lib.hid (by rw [← hg2.out, ht, Nat.gcd_rec p q])
              have HTP := Lib.hid htp
              have ht64 : t < 18446744073709551616 := by omega
              clear ht htp
              go_wp2_with fail
              go_roundw
              case rel => exact ⟨t, p, rfl, rfl, ht64, hp, HG2, hbw5⟩
              case measure => simp [intOf]; exact HTP.out
end Go.Proofs.Ytjcicbnjoffbhaa
set_option linter.unusedSimpArgs false
set_option linter.unusedVariables false
namespace Go.Proofs.Ytjcicbnjoffbhaa
open Go Go.RowKit Nt

theorem fits_gcd {a b : Nat} (ha : fits a) (hb : fits b) : fits (Nat.gcd a b) := by
  rcases Nat.eq_zero_or_pos a with h | h
  · rw [h, Nat.gcd_zero_left]; exact hb
  · exact fits_le ha (Nat.gcd_le_left b h)
set_option maxRecDepth 100000 in
set_option maxHeartbeats 1000000 in
theorem NGcd_c (a b : Nat) (w : World) (ha : fits a) (hb : fits b) :
    Calls Try.prog 49 #[.string (natS a), .string (natS b)] w (StrPost (natS (Nat.gcd a b)) 0 w) := by
  have hm := may2 ha hb
  have hg := fits_gcd ha hb
  have e3 := resS_ok hg
  have e4 := resE_ok hg
  have hwg := fits_words hg
  have hwa := fits_words ha
  have hwb := fits_words hb
  go_enter Try.func49, Try.ntmps49
  go_upto_region 4 with (first
    | (go_at_call 60; refine (all_c _ 2 [natS a, natS b] _ (by simp) (strs_new w 22 [natS a, natS b])).mono ?_; rintro e w' ⟨rfl, rfl⟩))
  have hbw : Below w.heap.size w (w.alloc (.cells #[.string (natS a), .string (natS b)] 22)) := (Below.refl _ _).alloc (Nat.le_refl _) _
  generalize w.alloc (.cells #[.string (natS a), .string (natS b)] 22) = w1 at *
  go_wp2_with fail
  refine (words_c a _ ha).mono ?_
  intro e w2 hp
  obtain ⟨A1, c1, rfl, hc1, hr1, hb2⟩ := hp.get
  have HR1 := Lib.hid hr1
  clear hr1 hp
  go_wp2_with fail
  refine (words_c b _ hb).mono ?_
  intro e w3 hp
  obtain ⟨A2, c2, rfl, hc2, hr2, hb3⟩ := hp.get
  have HR2 := Lib.hid hr2
  clear hr2 hp
  go_wp2_with fail
  refine (Gcd_c A1 A2 c1 c2 a b w3 (by omega) (by omega) hc1 hc2 ((HR1.out.below hb3).more hb3.size) HR2.out).mono ?_
  intro e w4 hp
  obtain ⟨A3, c3, rfl, hc3, hr3, hb4⟩ := hp.get
  have HR3 := Lib.hid hr3
  clear hr3 hp
  go_wp2_with fail
  refine (made_c A3 c3 (Nat.gcd a b) w4.heap.size w4 (by omega) HR3.out (Nat.le_refl _)).mono ?_
  rintro e w5 ⟨rfl, hb5⟩
  rw [e3, e4]
  go_wp2_with fail
  go_ret2
  exact ⟨rfl, hbw.trans ((below_chain hb2 (below_chain hb3 (below_chain hb4 hb5))).mono hbw.size)⟩
set_option maxRecDepth 100000 in
theorem NGcd_no (s t : ByteArray) (w : World) (h : ¬ (May s ∧ May t)) :
    Calls Try.prog 49 #[.string s, .string t] w (StrPost ⟨#[]⟩ 2 w) := by
  have hm := may2_no h
  go_enter Try.func49, Try.ntmps49
  go_wp2_with (first | (go_at_call 60; refine (all_c _ 2 [s, t] _ (by simp) (strs_new w 22 [s, t])).mono ?_; rintro e w' ⟨rfl, rfl⟩))
  go_ret2
  exact ⟨rfl, (Below.refl _ _).alloc (Nat.le_refl _) _⟩
end Go.Proofs.Ytjcicbnjoffbhaa
