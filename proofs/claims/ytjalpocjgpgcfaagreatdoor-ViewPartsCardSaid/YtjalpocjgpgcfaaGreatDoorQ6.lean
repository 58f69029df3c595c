/- Texts put together: V3 Post DP GP VP. -/
import Derived.Test.YtjalpocjgpgcfaaGreatDoorQ5
import Derived.Below
import Derived.ChangeSame
import Derived.Test.YtjalpocjgpgcfaaGreatDoorRows
import Derived.ProofKit
import Derived.Lib.SmallJoins
import Derived.OpenShut
import Derived.ShutString
import Derived.Deep.Strs
set_option linter.unusedVariables false
set_option linter.unusedSimpArgs false
namespace Go.Proofs.YtjalpocjgpgcfaaGreatDoor
open Go Go.RowKit Nt



theorem iv_pw {x : Int} (h1 : -100000 ≤ x) (h2 : x ≤ 100000) : iv (pw x) = ((2 ^ (x + (EE : Int)).toNat : Nat) : Int) := by
  have h := mk_toZ false 1 x EE (by have := EE_eq; omega)
  have hz : mkZE (sgnd false (1 * 2 ^ (x + (EE : Int)).toNat)) EE = 0 := h.2.symm.trans (pw_E h1 h2)
  unfold pw
  rw [h.1, mk_iv hz, sgnd_f, Nat.one_mul]
theorem iv_pw_one {x : Int} (h1 : -90000 ≤ x) (h2 : x ≤ 90000) : iv (pw (x + 1)) = 2 * iv (pw x) := by
  rw [iv_pw (by omega) (by omega), iv_pw (by omega) (by omega), show (x + 1 + (EE : Int)).toNat = (x + (EE : Int)).toNat + 1 from by have := EE_eq; omega, Nat.pow_succ]
  rw [Nat.mul_comm, Int.natCast_mul]; rfl
theorem iv_pw_pos {x : Int} (h1 : -100000 ≤ x) (h2 : x ≤ 100000) : 0 < iv (pw x) := by
  rw [iv_pw h1 h2]; have := Nat.two_pow_pos (x + (EE : Int)).toNat; omega
theorem iv_addp {a b : Dy} (ha : a.Ok) (hb : b.Ok) (h : addE a b = 0) : iv (addD a b) = iv a + iv b := by
  have e := add_iv ha hb
  rw [e.2] at h
  rw [e.1, mk_iv h]
theorem add_half {a : Dy} {e : Int} (ha : a.Ok) (he : -9000 ≤ e ∧ e ≤ 9000) (h : addE a (pw (e - 1)) = 0) : addD (addD a (pw (e - 1))) (pw (e - 1)) = addD a (pw e) ∧ addE (addD a (pw (e - 1))) (pw (e - 1)) = addE a (pw e) := by
  have e1 := add_iv (add_Ok ha (pw_Ok (e - 1))) (pw_Ok (e - 1))
  have e2 := add_iv ha (pw_Ok e)
  have e3 := iv_pw_one (x := e - 1) (by omega) (by omega)
  rw [show e - 1 + 1 = e from by omega] at e3
  rw [e1.1, e1.2, e2.1, e2.2, iv_addp ha (pw_Ok _) h, e3, show iv a + iv (pw (e - 1)) + iv (pw (e - 1)) = iv a + 2 * iv (pw (e - 1)) from by omega]
  exact ⟨rfl, rfl⟩
theorem DAdd_half (a : Dy) (e : Int) (ha : a.Ok) (he : -9000 ≤ e ∧ e ≤ 9000) (h : addE a (pw (e - 1)) = 0) (w : World) (hG : Globs glT w) : Calls Tryz.prog 20 #[.agg #[.bool (addD a (pw (e - 1))).g, .string (natS (addD a (pw (e - 1))).n), .int .i64 (addD a (pw (e - 1))).x], .agg #[.bool (pw (e - 1)).g, .string (natS (pw (e - 1)).n), .int .i64 (pw (e - 1)).x]] w fun e' w' => e' = .returned (.tuple #[.agg #[.bool (addD a (pw e)).g, .string (natS (addD a (pw e)).n), .int .i64 (addD a (pw e)).x], .int .i64 (addE a (pw e))]) ∧ Below w.heap.size w w' := by
  have h2 := DAdd_c (addD a (pw (e - 1))) (pw (e - 1)) w (add_Ok ha (pw_Ok _)) (pw_Ok _) hG
  unfold AddPost at h2
  rw [(add_half ha he h).1, (add_half ha he h).2] at h2
  exact h2
/-- Three times two to the power x. -/
@[irreducible] def tw (x : Int) : Dy := mkD false 3 x
theorem tw_Ok (x : Int) : (tw x).Ok := by unfold tw; exact mkD_Ok _ _ _
theorem mkOk_n {n : Nat} {x : Int} (hn : n = 2 ∨ n = 3 ∨ n = 4) (h1 : -90000 ≤ x) (h2 : x ≤ 90000) : mkE n x = 0 := by
  refine mkE_ok ?_
  have h3 := odN_le n
  have h4 : odN n < 256 := by omega
  have h5 : nd 256 (odN n) ≤ 16384 := Nat.le_trans (nd_le (k := 1) (by omega) (by omega)) (by decide)
  have h6 : lowN n ≤ 8 := by
    have h7 := (odN_spec (n := n) (by omega)).2
    have h8 := odN_pos (n := n) (by omega)
    rcases Nat.lt_or_ge (lowN n) 9 with h | h
    · omega
    · have h9 : 2 ^ 9 ≤ 2 ^ lowN n := Nat.pow_le_pow_right (by decide) h
      have h10 : 1 * 2 ^ lowN n ≤ odN n * 2 ^ lowN n := Nat.mul_le_mul_right _ (Nat.pos_of_ne_zero h8)
      omega
  exact Or.inr ⟨h5, by omega, by omega⟩
theorem mkn_iv {n : Nat} {x : Int} (hn : n = 2 ∨ n = 3 ∨ n = 4) (h1 : -90000 ≤ x) (h2 : x ≤ 90000) : mkD false n x = mkZ ((n : Int) * iv (pw x)) EE ∧ mkZE ((n : Int) * iv (pw x)) EE = 0 := by
  have h := mk_toZ false n x EE (by have := EE_eq; omega)
  rw [iv_pw (by omega) (by omega), ← Int.natCast_mul]
  rw [sgnd_f] at h
  exact ⟨h.1, h.2.symm.trans (mkOk_n hn h1 h2)⟩
theorem pw_n {x : Int} : pw (x + 1) = mkD false 2 x ∧ pw (x + 2) = mkD false 4 x := by
  have e1 := (pw_two (x + 1)).1
  rw [show x + 1 - 1 = x from by omega] at e1
  have h := mkD_shift false 1 2 (x + 2)
  rw [show x + 2 - ((2 : Nat) : Int) = x from by omega] at h
  exact ⟨e1.symm, by unfold pw; exact h.1.symm⟩
theorem sum_n {a : Dy} {m n : Nat} {x : Int} (hx : -90000 ≤ x ∧ x ≤ 90000) (hn : n = 2 ∨ n = 3 ∨ n = 4) (ha : a.Ok) (hi : iv a = (m : Int) * iv (pw x)) (hmn : n = m + 1) : addD a (pw x) = mkD false n x ∧ addE a (pw x) = 0 := by
  have e := add_iv ha (pw_Ok x)
  have k := mkn_iv hn hx.1 hx.2
  have hz : iv a + iv (pw x) = (n : Int) * iv (pw x) := by
    rw [hi, hmn, Int.natCast_add, Int.add_mul]; omega
  rw [hz] at e
  exact ⟨e.1.trans k.1.symm, e.2.trans k.2⟩
theorem iv_n {n : Nat} {x : Int} (hn : n = 2 ∨ n = 3 ∨ n = 4) (h1 : -90000 ≤ x) (h2 : x ≤ 90000) : iv (mkD false n x) = (n : Int) * iv (pw x) := by
  have k := mkn_iv hn h1 h2
  rw [k.1, mk_iv k.2]
def AddsTo (a b c : Dy) : Prop := addD a b = c ∧ addE a b = 0
theorem to0 (x : Int) (hx : -90000 ≤ x ∧ x ≤ 90000) : AddsTo Dy.zero (pw x) (pw x) := by
  have e := add_iv (Or.inl rfl : Dy.zero.Ok) (pw_Ok x)
  rw [iv_zero, Int.zero_add] at e
  exact ⟨e.1.trans (iv_mk (pw_Ok x)).1, e.2.trans (iv_mk (pw_Ok x)).2⟩
theorem to1 (x : Int) (hx : -90000 ≤ x ∧ x ≤ 90000) : AddsTo (pw x) (pw x) (pw (x + 1)) := by
  have h := sum_n (m := 1) (n := 2) hx (Or.inl rfl) (pw_Ok x) (by rw [show ((1 : Nat) : Int) = 1 from rfl, Int.one_mul]) rfl
  rw [← pw_n.1] at h; exact h
theorem to2 (x : Int) (hx : -90000 ≤ x ∧ x ≤ 90000) : AddsTo (pw (x + 1)) (pw x) (tw x) := by
  have h := sum_n (m := 2) (n := 3) hx (Or.inr (Or.inl rfl)) (pw_Ok (x + 1)) (by rw [pw_n.1]; exact iv_n (Or.inl rfl) hx.1 hx.2) rfl
  unfold tw; exact h
theorem to3 (x y : Int) (hx : -90000 ≤ x ∧ x ≤ 90000) (hy : x + 2 = y) : AddsTo (tw x) (pw x) (pw y) := by
  have h := sum_n (a := tw x) (m := 3) (n := 4) hx (Or.inr (Or.inr rfl)) (tw_Ok x) (by unfold tw; exact iv_n (Or.inr (Or.inl rfl)) hx.1 hx.2) rfl
  rw [← pw_n.2, hy] at h; exact h
theorem DAdd_to (a b c : Dy) (ha : a.Ok) (hb : b.Ok) (h : AddsTo a b c) (w : World) (hG : Globs glT w) : Calls Tryz.prog 20 #[.agg #[.bool a.g, .string (natS a.n), .int .i64 a.x], .agg #[.bool b.g, .string (natS b.n), .int .i64 b.x]] w fun e' w' => e' = .returned (.tuple #[.agg #[.bool c.g, .string (natS c.n), .int .i64 c.x], .int .i64 0]) ∧ Below w.heap.size w w' := by
  have h2 := DAdd_c a b w ha hb hG
  unfold AddPost at h2
  rw [h.1, h.2] at h2
  exact h2
/-- How a number stands to the ends and the middle. -/
structure Ord (l : Dy) (e : Int) (x : Dy) : Prop where
  a : cmpD x (addD l (pw (e - 1))) ≤ 0 → cmpD x (addD l (pw e)) ≤ 0
  b : ¬ cmpD x (addD l (pw (e - 1))) ≤ 0 → cmpD (addD l (pw (e - 1))) x ≤ 0
  c : cmpD (addD l (pw (e - 1))) x ≤ 0 → cmpD l x ≤ 0
  d : ¬ cmpD l x ≤ 0 → cmpD x (addD l (pw (e - 1))) ≤ 0
theorem ord_le {a b : Dy} (ha : a.Ok) (hb : b.Ok) : cmpD a b ≤ 0 ↔ iv a ≤ iv b := by
  rw [cmp_iv ha hb]; unfold sgI
  repeat' split
  all_goals omega
theorem ord_of {l x : Dy} {e : Int} (hl : l.Ok) (hx : x.Ok) (he : -9000 ≤ e ∧ e ≤ 9000) (h1 : addE l (pw (e - 1)) = 0) (h2 : addE l (pw e) = 0) : Ord l e x := by
  have k1 := iv_addp hl (pw_Ok (e - 1)) h1
  have k2 := iv_addp hl (pw_Ok e) h2
  have k3 := iv_pw_one (x := e - 1) (by omega) (by omega)
  rw [show e - 1 + 1 = e from by omega] at k3
  have k4 := iv_pw_pos (x := e - 1) (by omega) (by omega)
  have m1 := add_Ok hl (pw_Ok (e - 1))
  have m2 := add_Ok hl (pw_Ok e)
  constructor
  · rw [ord_le hx m1, ord_le hx m2]; omega
  · rw [ord_le hx m1, ord_le m1 hx]; omega
  · rw [ord_le m1 hx, ord_le hl hx]; omega
  · rw [ord_le hl hx, ord_le hx m1]; omega

@[reducible] def ViewParts_ok_f : FuncId := 4
@[reducible] def ViewParts_ok_a : List AV := [.agg [.sym 0, .sym 1, .sym 2, .sym 3, .sym 4, .sym 5, .sym 6], .agg [.sym 7, .sym 8, .sym 9, .sym 10, .sym 11, .sym 12]]
@[reducible] noncomputable def ViewParts_ok_k (b1 b2 b3 b4 b5 b6 b7 b8 b9 b10 b11 b12 b13 : Bool) : Know := ⟨[([0, 11, 3], [.sym 6, .lit (.int .i64 (-4096))], .lit (.bool b1)),
  ([0, 12, 30], [.sym 19, .lit (.int .i64 0)], .lit (.bool (!b2))),
  ([0, 12, 30], [.sym 23, .lit (.int .i64 0)], .lit (.bool (!b3))),
  ([0, 12, 30], [.sym 30, .lit (.int .i64 0)], .lit (.bool (!b4))),
  ([0, 12, 30], [.sym 34, .lit (.int .i64 0)], .lit (.bool (!b5))),
  ([0, 2, 3], [.lit (.int .i64 2), .sym 6], .sym 35),
  ([0, 1, 3], [.sym 6, .lit (.int .i64 1)], .sym 47),
  ([0, 2, 3], [.lit (.int .i64 2), .sym 47], .sym 48),
  ([0, 12, 28], [.agg [.sym 0, .sym 1, .sym 2, .sym 3, .sym 4, .sym 5], .agg [.sym 0, .sym 1, .sym 2, .sym 3, .sym 4, .sym 5]], .lit (.bool false)),
  ([0, 12, 28], [.agg [.sym 27, .sym 28, .sym 29, .sym 31, .sym 32, .sym 33], .agg [.sym 27, .sym 28, .sym 29, .sym 31, .sym 32, .sym 33]], .lit (.bool false)),
  ([0, 14, 3], [.sym 39, .lit (.int .i64 0)], .lit (.bool b6)),
  ([0, 14, 3], [.sym 40, .lit (.int .i64 0)], .lit (.bool b7)),
  ([0, 14, 3], [.sym 41, .lit (.int .i64 0)], .lit (.bool b8)),
  ([0, 14, 3], [.sym 42, .lit (.int .i64 0)], .lit (.bool b9)),
  ([0, 12, 28], [.agg [.sym 16, .sym 17, .sym 18, .sym 3, .sym 4, .sym 5], .agg [.sym 16, .sym 17, .sym 18, .sym 3, .sym 4, .sym 5]], .lit (.bool false)),
  ([0, 14, 3], [.sym 43, .lit (.int .i64 0)], .lit (.bool b10)),
  ([0, 14, 3], [.sym 44, .lit (.int .i64 0)], .lit (.bool b11)),
  ([0, 12, 28], [.agg [.sym 0, .sym 1, .sym 2, .sym 20, .sym 21, .sym 22], .agg [.sym 0, .sym 1, .sym 2, .sym 20, .sym 21, .sym 22]], .lit (.bool false)),
  ([0, 14, 3], [.sym 45, .lit (.int .i64 0)], .lit (.bool b12)),
  ([0, 14, 3], [.sym 46, .lit (.int .i64 0)], .lit (.bool b13)),
  ([0, 12, 28], [.agg [.sym 16, .sym 17, .sym 18, .sym 20, .sym 21, .sym 22], .agg [.sym 16, .sym 17, .sym 18, .sym 20, .sym 21, .sym 22]], .lit (.bool false)),
  ([0, 11, 24], [.agg [.sym 36, .sym 37, .sym 38], .agg [.sym 36, .sym 37, .sym 38]], .lit (.bool true))],
  [(13, [], .lit (.bool true)),
  (12, [.agg [.sym 0, .sym 1, .sym 2, .sym 3, .sym 4, .sym 5, .sym 6]], .lit (.int .i64 0)),
  (50, [.lit (.int .i64 2), .sym 6], .agg [.sym 13, .sym 14, .sym 15]),
  (20, [.agg [.sym 0, .sym 1, .sym 2], .agg [.sym 13, .sym 14, .sym 15]], .tup [.agg [.sym 16, .sym 17, .sym 18], .sym 19]),
  (20, [.agg [.sym 3, .sym 4, .sym 5], .agg [.sym 13, .sym 14, .sym 15]], .tup [.agg [.sym 20, .sym 21, .sym 22], .sym 23]),
  (50, [.lit (.int .i64 1), .sym 6], .agg [.sym 24, .sym 25, .sym 26]),
  (20, [.agg [.sym 0, .sym 1, .sym 2], .agg [.sym 24, .sym 25, .sym 26]], .tup [.agg [.sym 27, .sym 28, .sym 29], .sym 30]),
  (20, [.agg [.sym 3, .sym 4, .sym 5], .agg [.sym 24, .sym 25, .sym 26]], .tup [.agg [.sym 31, .sym 32, .sym 33], .sym 34]),
  (27, [.lit (.int .i64 1), .sym 35], .tup [.agg [.sym 36, .sym 37, .sym 38], .lit (.int .i64 0)]),
  (25, [.agg [.sym 7, .sym 8, .sym 9, .sym 10, .sym 11, .sym 12]], .lit (.int .i64 0)),
  (51, [.agg [.sym 0, .sym 1, .sym 2], .agg [.sym 7, .sym 8, .sym 9]], .tup [.sym 39, .lit (.int .i64 0)]),
  (51, [.agg [.sym 7, .sym 8, .sym 9], .agg [.sym 27, .sym 28, .sym 29]], .tup [.sym 40, .lit (.int .i64 0)]),
  (51, [.agg [.sym 3, .sym 4, .sym 5], .agg [.sym 10, .sym 11, .sym 12]], .tup [.sym 41, .lit (.int .i64 0)]),
  (51, [.agg [.sym 10, .sym 11, .sym 12], .agg [.sym 31, .sym 32, .sym 33]], .tup [.sym 42, .lit (.int .i64 0)]),
  (20, [.agg [.sym 27, .sym 28, .sym 29], .agg [.sym 24, .sym 25, .sym 26]], .tup [.agg [.sym 16, .sym 17, .sym 18], .sym 19]),
  (51, [.agg [.sym 27, .sym 28, .sym 29], .agg [.sym 7, .sym 8, .sym 9]], .tup [.sym 43, .lit (.int .i64 0)]),
  (51, [.agg [.sym 7, .sym 8, .sym 9], .agg [.sym 16, .sym 17, .sym 18]], .tup [.sym 44, .lit (.int .i64 0)]),
  (20, [.agg [.sym 31, .sym 32, .sym 33], .agg [.sym 24, .sym 25, .sym 26]], .tup [.agg [.sym 20, .sym 21, .sym 22], .sym 23]),
  (51, [.agg [.sym 31, .sym 32, .sym 33], .agg [.sym 10, .sym 11, .sym 12]], .tup [.sym 45, .lit (.int .i64 0)]),
  (51, [.agg [.sym 10, .sym 11, .sym 12], .agg [.sym 20, .sym 21, .sym 22]], .tup [.sym 46, .lit (.int .i64 0)]),
  (12, [.agg [.sym 0, .sym 1, .sym 2, .sym 3, .sym 4, .sym 5, .sym 47]], .lit (.int .i64 0)),
  (50, [.lit (.int .i64 2), .sym 47], .agg [.sym 24, .sym 25, .sym 26]),
  (12, [.agg [.sym 27, .sym 28, .sym 29, .sym 3, .sym 4, .sym 5, .sym 47]], .lit (.int .i64 0)),
  (12, [.agg [.sym 0, .sym 1, .sym 2, .sym 31, .sym 32, .sym 33, .sym 47]], .lit (.int .i64 0)),
  (12, [.agg [.sym 27, .sym 28, .sym 29, .sym 31, .sym 32, .sym 33, .sym 47]], .lit (.int .i64 0)),
  (27, [.lit (.int .i64 1), .sym 48], .tup [.agg [.sym 49, .sym 50, .sym 51], .lit (.int .i64 0)]),
  (20, [.lit (.agg #[.bool false, .string ⟨#[]⟩, .int .i64 0]), .agg [.sym 49, .sym 50, .sym 51]], .tup [.agg [.sym 49, .sym 50, .sym 51], .lit (.int .i64 0)]),
  (20, [.agg [.sym 49, .sym 50, .sym 51], .agg [.sym 49, .sym 50, .sym 51]], .tup [.agg [.sym 52, .sym 53, .sym 54], .lit (.int .i64 0)]),
  (20, [.agg [.sym 52, .sym 53, .sym 54], .agg [.sym 49, .sym 50, .sym 51]], .tup [.agg [.sym 55, .sym 56, .sym 57], .lit (.int .i64 0)]),
  (20, [.agg [.sym 55, .sym 56, .sym 57], .agg [.sym 49, .sym 50, .sym 51]], .tup [.agg [.sym 36, .sym 37, .sym 38], .lit (.int .i64 0)])]⟩
theorem ViewParts_ok_r1 : @comes (ViewParts_ok_k false true true true true true true true true true true true true) Tryz.prog glT 3000 ViewParts_ok_f ViewParts_ok_a = some (.lit (.bool true)) := by kernel_rfl
theorem ViewParts_ok_r2 : @comes (ViewParts_ok_k false true true true true true true true true true true false true) Tryz.prog glT 3000 ViewParts_ok_f ViewParts_ok_a = some (.lit (.bool true)) := by kernel_rfl
theorem ViewParts_ok_r3 : @comes (ViewParts_ok_k false true true true true true true true true false true true true) Tryz.prog glT 3000 ViewParts_ok_f ViewParts_ok_a = some (.lit (.bool true)) := by kernel_rfl
theorem ViewParts_ok_r4 : @comes (ViewParts_ok_k false true true true true true true true true false true false true) Tryz.prog glT 3000 ViewParts_ok_f ViewParts_ok_a = some (.lit (.bool true)) := by kernel_rfl
theorem ViewParts_ok_r5 : @comes (ViewParts_ok_k false true true true true true true true false true true true true) Tryz.prog glT 3000 ViewParts_ok_f ViewParts_ok_a = some (.lit (.bool true)) := by kernel_rfl
theorem ViewParts_ok_r6 : @comes (ViewParts_ok_k false true true true true true true true false true true true false) Tryz.prog glT 3000 ViewParts_ok_f ViewParts_ok_a = some (.lit (.bool true)) := by kernel_rfl
theorem ViewParts_ok_r7 : @comes (ViewParts_ok_k false true true true true true true true false false true true true) Tryz.prog glT 3000 ViewParts_ok_f ViewParts_ok_a = some (.lit (.bool true)) := by kernel_rfl
theorem ViewParts_ok_r8 : @comes (ViewParts_ok_k false true true true true true true true false false true true false) Tryz.prog glT 3000 ViewParts_ok_f ViewParts_ok_a = some (.lit (.bool true)) := by kernel_rfl
theorem ViewParts_ok_r9 (b9 b13 : Bool) : @comes (ViewParts_ok_k false true true true true true true false b9 true true false b13) Tryz.prog glT 3000 ViewParts_ok_f ViewParts_ok_a = some (.lit (.bool true)) := by kernel_rfl
theorem ViewParts_ok_r10 (b9 b13 : Bool) : @comes (ViewParts_ok_k false true true true true true true false b9 false true false b13) Tryz.prog glT 3000 ViewParts_ok_f ViewParts_ok_a = some (.lit (.bool true)) := by kernel_rfl
theorem ViewParts_ok_r11 : @comes (ViewParts_ok_k false true true true true true false true true true true true true) Tryz.prog glT 3000 ViewParts_ok_f ViewParts_ok_a = some (.lit (.bool true)) := by kernel_rfl
theorem ViewParts_ok_r12 : @comes (ViewParts_ok_k false true true true true true false true true true true false true) Tryz.prog glT 3000 ViewParts_ok_f ViewParts_ok_a = some (.lit (.bool true)) := by kernel_rfl
theorem ViewParts_ok_r13 : @comes (ViewParts_ok_k false true true true true true false true false true true true true) Tryz.prog glT 3000 ViewParts_ok_f ViewParts_ok_a = some (.lit (.bool true)) := by kernel_rfl
theorem ViewParts_ok_r14 : @comes (ViewParts_ok_k false true true true true true false true false true true true false) Tryz.prog glT 3000 ViewParts_ok_f ViewParts_ok_a = some (.lit (.bool true)) := by kernel_rfl
theorem ViewParts_ok_r15 (b9 b13 : Bool) : @comes (ViewParts_ok_k false true true true true true false false b9 true true false b13) Tryz.prog glT 3000 ViewParts_ok_f ViewParts_ok_a = some (.lit (.bool true)) := by kernel_rfl
theorem ViewParts_ok_r16 (b8 b9 b12 b13 : Bool) : @comes (ViewParts_ok_k false true true true true true false b8 b9 true false b12 b13) Tryz.prog glT 3000 ViewParts_ok_f ViewParts_ok_a = some (.lit (.bool true)) := by kernel_rfl
theorem ViewParts_ok_r17 (b7 b8 b9 b11 b12 b13 : Bool) : @comes (ViewParts_ok_k false true true true true false b7 b8 b9 false b11 b12 b13) Tryz.prog glT 3000 ViewParts_ok_f ViewParts_ok_a = some (.lit (.bool true)) := by kernel_rfl

set_option maxRecDepth 100000 in
set_option maxHeartbeats 4000000 in
theorem ViewParts_ok (l m : Dy) (y : Int) (g : Gs) (w : World) (hl : l.Ok) (hm : m.Ok) (he : -4095 ≤ y ∧ y ≤ 4096) (hg : g.Ok) (k1 : addE l (pw (y - 1)) = 0) (k2 : addE m (pw (y - 1)) = 0) (k3 : addE l (pw y) = 0) (k4 : addE m (pw y) = 0) (ox : Ord l y g.re) (oy : Ord m y g.im) (hG : Globs glT w) : Calls Tryz.prog 4 #[.agg #[.bool l.g, .string (natS l.n), .int .i64 l.x, .bool m.g, .string (natS m.n), .int .i64 m.x, .int .i64 y], .agg #[.bool g.re.g, .string (natS g.re.n), .int .i64 g.re.x, .bool g.im.g, .string (natS g.im.n), .int .i64 g.im.x]] w fun e w' => e = .returned (.bool true) ∧ Below w.heap.size w w' := by
  obtain ⟨b1, i1⟩ := bex (y = -4096)
  obtain ⟨b2, i2⟩ := bex (addE l (pw y) = 0)
  obtain ⟨b3, i3⟩ := bex (addE m (pw y) = 0)
  obtain ⟨b4, i4⟩ := bex (addE l (pw (y - 1)) = 0)
  obtain ⟨b5, i5⟩ := bex (addE m (pw (y - 1)) = 0)
  obtain ⟨b6, i6⟩ := bex (cmpD l g.re ≤ 0)
  obtain ⟨b7, i7⟩ := bex (cmpD g.re (addD l (pw (y - 1))) ≤ 0)
  obtain ⟨b8, i8⟩ := bex (cmpD m g.im ≤ 0)
  obtain ⟨b9, i9⟩ := bex (cmpD g.im (addD m (pw (y - 1))) ≤ 0)
  obtain ⟨b10, i10⟩ := bex (cmpD (addD l (pw (y - 1))) g.re ≤ 0)
  obtain ⟨b11, i11⟩ := bex (cmpD g.re (addD l (pw y)) ≤ 0)
  obtain ⟨b12, i12⟩ := bex (cmpD (addD m (pw (y - 1))) g.im ≤ 0)
  obtain ⟨b13, i13⟩ := bex (cmpD g.im (addD m (pw y)) ≤ 0)
  letI : Env := mkEnv glT [.bool l.g, .string (natS l.n), .int .i64 l.x, .bool m.g, .string (natS m.n), .int .i64 m.x, .int .i64 y, .bool g.re.g, .string (natS g.re.n), .int .i64 g.re.x, .bool g.im.g, .string (natS g.im.n), .int .i64 g.im.x, .bool (pw y).g, .string (natS (pw y).n), .int .i64 (pw y).x, .bool (addD l (pw y)).g, .string (natS (addD l (pw y)).n), .int .i64 (addD l (pw y)).x, .int .i64 (addE l (pw y)), .bool (addD m (pw y)).g, .string (natS (addD m (pw y)).n), .int .i64 (addD m (pw y)).x, .int .i64 (addE m (pw y)), .bool (pw (y - 1)).g, .string (natS (pw (y - 1)).n), .int .i64 (pw (y - 1)).x, .bool (addD l (pw (y - 1))).g, .string (natS (addD l (pw (y - 1))).n), .int .i64 (addD l (pw (y - 1))).x, .int .i64 (addE l (pw (y - 1))), .bool (addD m (pw (y - 1))).g, .string (natS (addD m (pw (y - 1))).n), .int .i64 (addD m (pw (y - 1))).x, .int .i64 (addE m (pw (y - 1))), .int .i64 (2 * y), .bool (pw (2 * y)).g, .string (natS (pw (2 * y)).n), .int .i64 (pw (2 * y)).x, .int .i64 (cmpD l g.re), .int .i64 (cmpD g.re (addD l (pw (y - 1)))), .int .i64 (cmpD m g.im), .int .i64 (cmpD g.im (addD m (pw (y - 1)))), .int .i64 (cmpD (addD l (pw (y - 1))) g.re), .int .i64 (cmpD g.re (addD l (pw y))), .int .i64 (cmpD (addD m (pw (y - 1))) g.im), .int .i64 (cmpD g.im (addD m (pw y))), .int .i64 (y - 1), .int .i64 (2 * (y - 1)), .bool (pw (2 * (y - 1))).g, .string (natS (pw (2 * (y - 1))).n), .int .i64 (pw (2 * (y - 1))).x, .bool (pw (2 * (y - 1) + 1)).g, .string (natS (pw (2 * (y - 1) + 1)).n), .int .i64 (pw (2 * (y - 1) + 1)).x, .bool (tw (2 * (y - 1))).g, .string (natS (tw (2 * (y - 1))).n), .int .i64 (tw (2 * (y - 1))).x] rfl
  have hops : OpsT Tryz.prog (@Know.ops (ViewParts_ok_k b1 b2 b3 b4 b5 b6 b7 b8 b9 b10 b11 b12 b13)) := ⟨opt_eql_i rfl rfl i1,
    opt_neq_i rfl rfl i2,
    opt_neq_i rfl rfl i3,
    opt_neq_i rfl rfl i4,
    opt_neq_i rfl rfl i5,
    vopt_mul rfl rfl rfl rfl rfl ⟨by omega, by omega⟩,
    vopt_sub rfl rfl rfl rfl rfl ⟨by omega, by omega⟩,
    vopt_mul rfl rfl rfl rfl rfl ⟨by omega, by omega⟩,
    optG_neq_f (a := ⟨l, m⟩) (b := ⟨l, m⟩) rfl rfl rfl,
    optG_neq_f (a := ⟨addD l (pw (y - 1)), addD m (pw (y - 1))⟩) (b := ⟨addD l (pw (y - 1)), addD m (pw (y - 1))⟩) rfl rfl rfl,
    opt_leq_i rfl rfl i6,
    opt_leq_i rfl rfl i7,
    opt_leq_i rfl rfl i8,
    opt_leq_i rfl rfl i9,
    optG_neq_f (a := ⟨addD l (pw y), m⟩) (b := ⟨addD l (pw y), m⟩) rfl rfl rfl,
    opt_leq_i rfl rfl i10,
    opt_leq_i rfl rfl i11,
    optG_neq_f (a := ⟨l, addD m (pw y)⟩) (b := ⟨l, addD m (pw y)⟩) rfl rfl rfl,
    opt_leq_i rfl rfl i12,
    opt_leq_i rfl rfl i13,
    optG_neq_f (a := ⟨addD l (pw y), addD m (pw y)⟩) (b := ⟨addD l (pw y), addD m (pw y)⟩) rfl rfl rfl,
    optD_eql_t (a := pw (2 * y)) (b := pw (2 * y)) rfl rfl rfl,
    trivial⟩
  have hcalls : CallsT Tryz.prog (@Know.calls (ViewParts_ok_k b1 b2 b3 b4 b5 b6 b7 b8 b9 b10 b11 b12 b13)) := ⟨callt rfl rfl fun w hG => awake24_c w hG,
    callt rfl rfl fun w hG => VRight_ok l m y w hl hm ⟨by omega, by omega⟩ hG,
    callt rfl rfl fun w hG => halves_2 y w ⟨by omega, by omega⟩ hG,
    callt rfl rfl fun w hG => DAdd_c l (pw y) w hl (pw_Ok _) hG,
    callt rfl rfl fun w hG => DAdd_c m (pw y) w hm (pw_Ok _) hG,
    callt rfl rfl fun w hG => halves_1 y w ⟨by omega, by omega⟩ hG,
    callt rfl rfl fun w hG => DAdd_c l (pw (y - 1)) w hl (pw_Ok _) hG,
    callt rfl rfl fun w hG => DAdd_c m (pw (y - 1)) w hm (pw_Ok _) hG,
    callt rfl rfl fun w hG => DOf_pw (2 * y) ⟨by omega, by omega⟩ w,
    callt rfl rfl fun w hG => GCheck_gs g hg w hG,
    callt rfl rfl fun w hG => DCmp_c l g.re w hl hg.1,
    callt rfl rfl fun w hG => DCmp_c g.re (addD l (pw (y - 1))) w hg.1 (add_Ok hl (pw_Ok _)),
    callt rfl rfl fun w hG => DCmp_c m g.im w hm hg.2,
    callt rfl rfl fun w hG => DCmp_c g.im (addD m (pw (y - 1))) w hg.2 (add_Ok hm (pw_Ok _)),
    callt rfl rfl fun w hG => DAdd_half l y hl ⟨by omega, by omega⟩ k1 w hG,
    callt rfl rfl fun w hG => DCmp_c (addD l (pw (y - 1))) g.re w (add_Ok hl (pw_Ok _)) hg.1,
    callt rfl rfl fun w hG => DCmp_c g.re (addD l (pw y)) w hg.1 (add_Ok hl (pw_Ok _)),
    callt rfl rfl fun w hG => DAdd_half m y hm ⟨by omega, by omega⟩ k2 w hG,
    callt rfl rfl fun w hG => DCmp_c (addD m (pw (y - 1))) g.im w (add_Ok hm (pw_Ok _)) hg.2,
    callt rfl rfl fun w hG => DCmp_c g.im (addD m (pw y)) w hg.2 (add_Ok hm (pw_Ok _)),
    callt rfl rfl fun w hG => VRight_ok l m (y - 1) w hl hm ⟨by omega, by omega⟩ hG,
    callt rfl rfl fun w hG => halves_2 (y - 1) w ⟨by omega, by omega⟩ hG,
    callt rfl rfl fun w hG => VRight_ok (addD l (pw (y - 1))) m (y - 1) w (add_Ok hl (pw_Ok _)) hm ⟨by omega, by omega⟩ hG,
    callt rfl rfl fun w hG => VRight_ok l (addD m (pw (y - 1))) (y - 1) w hl (add_Ok hm (pw_Ok _)) ⟨by omega, by omega⟩ hG,
    callt rfl rfl fun w hG => VRight_ok (addD l (pw (y - 1))) (addD m (pw (y - 1))) (y - 1) w (add_Ok hl (pw_Ok _)) (add_Ok hm (pw_Ok _)) ⟨by omega, by omega⟩ hG,
    callt rfl rfl fun w hG => DOf_pw (2 * (y - 1)) ⟨by omega, by omega⟩ w,
    callt rfl rfl fun w hG => (by have h := DAdd_to Dy.zero (pw (2 * (y - 1))) (pw (2 * (y - 1))) (Or.inl rfl) (pw_Ok _) (to0 (2 * (y - 1)) ⟨by omega, by omega⟩) w hG; rw [natS_dz] at h; exact h),
    callt rfl rfl fun w hG => DAdd_to (pw (2 * (y - 1))) (pw (2 * (y - 1))) (pw (2 * (y - 1) + 1)) (pw_Ok _) (pw_Ok _) (to1 (2 * (y - 1)) ⟨by omega, by omega⟩) w hG,
    callt rfl rfl fun w hG => DAdd_to (pw (2 * (y - 1) + 1)) (pw (2 * (y - 1))) (tw (2 * (y - 1))) (pw_Ok _) (pw_Ok _) (to2 (2 * (y - 1)) ⟨by omega, by omega⟩) w hG,
    callt rfl rfl fun w hG => DAdd_to (tw (2 * (y - 1))) (pw (2 * (y - 1))) (pw (2 * y)) (tw_Ok _) (pw_Ok _) (to3 (2 * (y - 1)) (2 * y) ⟨by omega, by omega⟩ (by omega)) w hG,
    trivial⟩
  have fin : ∀ v, @comes (ViewParts_ok_k b1 b2 b3 b4 b5 b6 b7 b8 b9 b10 b11 b12 b13) Tryz.prog glT 3000 ViewParts_ok_f ViewParts_ok_a = some v → ground v = true → Ending.returned (gval v) = .returned (.bool true) → Calls Tryz.prog 4 #[.agg #[.bool l.g, .string (natS l.n), .int .i64 l.x, .bool m.g, .string (natS m.n), .int .i64 m.x, .int .i64 y], .agg #[.bool g.re.g, .string (natS g.re.n), .int .i64 g.re.x, .bool g.im.g, .string (natS g.im.n), .int .i64 g.im.x]] w fun e w' => e = .returned (.bool true) ∧ Below w.heap.size w w' := fun v h1 h2 h3 => (@sym_ok _ (ViewParts_ok_k b1 b2 b3 b4 b5 b6 b7 b8 b9 b10 b11 b12 b13) _ (@KnowOk.of _ (ViewParts_ok_k b1 b2 b3 b4 b5 b6 b7 b8 b9 b10 b11 b12 b13) _ hops hcalls) (by kernel_rfl) _ _ _ _ h1 rfl h2 _ hG).mono fun e w' h => ⟨h.1.trans h3, h.2⟩
  clear hops hcalls
  cases b1 with
  | true =>
    exact absurd (i1.1 rfl) ((by omega))
  | false =>
    have h1 : ¬ (y = -4096) := fun c => Bool.false_ne_true (i1.2 c)
    cases b4 with
    | true =>
      have h4 : addE l (pw (y - 1)) = 0 := i4.1 rfl
      cases b5 with
      | true =>
        have h5 : addE m (pw (y - 1)) = 0 := i5.1 rfl
        cases b2 with
        | true =>
          have h2 : addE l (pw y) = 0 := i2.1 rfl
          cases b3 with
          | true =>
            have h3 : addE m (pw y) = 0 := i3.1 rfl
            cases b6 with
            | true =>
              have h6 : cmpD l g.re ≤ 0 := i6.1 rfl
              cases b7 with
              | true =>
                have h7 : cmpD g.re (addD l (pw (y - 1))) ≤ 0 := i7.1 rfl
                cases b8 with
                | true =>
                  have h8 : cmpD m g.im ≤ 0 := i8.1 rfl
                  cases b9 with
                  | true =>
                    have h9 : cmpD g.im (addD m (pw (y - 1))) ≤ 0 := i9.1 rfl
                    cases b10 with
                    | true =>
                      have h10 : cmpD (addD l (pw (y - 1))) g.re ≤ 0 := i10.1 rfl
                      cases b11 with
                      | true =>
                        have h11 : cmpD g.re (addD l (pw y)) ≤ 0 := i11.1 rfl
                        cases b12 with
                        | true =>
                          have h12 : cmpD (addD m (pw (y - 1))) g.im ≤ 0 := i12.1 rfl
                          cases b13 with
                          | true =>
                            have h13 : cmpD g.im (addD m (pw y)) ≤ 0 := i13.1 rfl
                            exact fin _ (ViewParts_ok_r1) rfl rfl
                          | false =>
                            exact absurd (i13.2 (oy.a h9)) Bool.false_ne_true
                        | false =>
                          have h12 : ¬ (cmpD (addD m (pw (y - 1))) g.im ≤ 0) := fun c => Bool.false_ne_true (i12.2 c)
                          cases b13 with
                          | true =>
                            have h13 : cmpD g.im (addD m (pw y)) ≤ 0 := i13.1 rfl
                            exact fin _ (ViewParts_ok_r2) rfl rfl
                          | false =>
                            exact absurd (i13.2 (oy.a h9)) Bool.false_ne_true
                      | false =>
                        exact absurd (i11.2 (ox.a h7)) Bool.false_ne_true
                    | false =>
                      have h10 : ¬ (cmpD (addD l (pw (y - 1))) g.re ≤ 0) := fun c => Bool.false_ne_true (i10.2 c)
                      cases b12 with
                      | true =>
                        have h12 : cmpD (addD m (pw (y - 1))) g.im ≤ 0 := i12.1 rfl
                        cases b13 with
                        | true =>
                          have h13 : cmpD g.im (addD m (pw y)) ≤ 0 := i13.1 rfl
                          cases b11 with
                          | true =>
                            have h11 : cmpD g.re (addD l (pw y)) ≤ 0 := i11.1 rfl
                            exact fin _ (ViewParts_ok_r3) rfl rfl
                          | false =>
                            exact absurd (i11.2 (ox.a h7)) Bool.false_ne_true
                        | false =>
                          exact absurd (i13.2 (oy.a h9)) Bool.false_ne_true
                      | false =>
                        have h12 : ¬ (cmpD (addD m (pw (y - 1))) g.im ≤ 0) := fun c => Bool.false_ne_true (i12.2 c)
                        cases b11 with
                        | true =>
                          have h11 : cmpD g.re (addD l (pw y)) ≤ 0 := i11.1 rfl
                          cases b13 with
                          | true =>
                            have h13 : cmpD g.im (addD m (pw y)) ≤ 0 := i13.1 rfl
                            exact fin _ (ViewParts_ok_r4) rfl rfl
                          | false =>
                            exact absurd (i13.2 (oy.a h9)) Bool.false_ne_true
                        | false =>
                          exact absurd (i11.2 (ox.a h7)) Bool.false_ne_true
                  | false =>
                    have h9 : ¬ (cmpD g.im (addD m (pw (y - 1))) ≤ 0) := fun c => Bool.false_ne_true (i9.2 c)
                    cases b10 with
                    | true =>
                      have h10 : cmpD (addD l (pw (y - 1))) g.re ≤ 0 := i10.1 rfl
                      cases b11 with
                      | true =>
                        have h11 : cmpD g.re (addD l (pw y)) ≤ 0 := i11.1 rfl
                        cases b12 with
                        | true =>
                          have h12 : cmpD (addD m (pw (y - 1))) g.im ≤ 0 := i12.1 rfl
                          cases b13 with
                          | true =>
                            have h13 : cmpD g.im (addD m (pw y)) ≤ 0 := i13.1 rfl
                            exact fin _ (ViewParts_ok_r5) rfl rfl
                          | false =>
                            have h13 : ¬ (cmpD g.im (addD m (pw y)) ≤ 0) := fun c => Bool.false_ne_true (i13.2 c)
                            exact fin _ (ViewParts_ok_r6) rfl rfl
                        | false =>
                          exact absurd (i12.2 (oy.b h9)) Bool.false_ne_true
                      | false =>
                        exact absurd (i11.2 (ox.a h7)) Bool.false_ne_true
                    | false =>
                      have h10 : ¬ (cmpD (addD l (pw (y - 1))) g.re ≤ 0) := fun c => Bool.false_ne_true (i10.2 c)
                      cases b12 with
                      | true =>
                        have h12 : cmpD (addD m (pw (y - 1))) g.im ≤ 0 := i12.1 rfl
                        cases b13 with
                        | true =>
                          have h13 : cmpD g.im (addD m (pw y)) ≤ 0 := i13.1 rfl
                          cases b11 with
                          | true =>
                            have h11 : cmpD g.re (addD l (pw y)) ≤ 0 := i11.1 rfl
                            exact fin _ (ViewParts_ok_r7) rfl rfl
                          | false =>
                            exact absurd (i11.2 (ox.a h7)) Bool.false_ne_true
                        | false =>
                          have h13 : ¬ (cmpD g.im (addD m (pw y)) ≤ 0) := fun c => Bool.false_ne_true (i13.2 c)
                          cases b11 with
                          | true =>
                            have h11 : cmpD g.re (addD l (pw y)) ≤ 0 := i11.1 rfl
                            exact fin _ (ViewParts_ok_r8) rfl rfl
                          | false =>
                            exact absurd (i11.2 (ox.a h7)) Bool.false_ne_true
                      | false =>
                        exact absurd (i12.2 (oy.b h9)) Bool.false_ne_true
                | false =>
                  have h8 : ¬ (cmpD m g.im ≤ 0) := fun c => Bool.false_ne_true (i8.2 c)
                  cases b10 with
                  | true =>
                    have h10 : cmpD (addD l (pw (y - 1))) g.re ≤ 0 := i10.1 rfl
                    cases b11 with
                    | true =>
                      have h11 : cmpD g.re (addD l (pw y)) ≤ 0 := i11.1 rfl
                      cases b12 with
                      | true =>
                        exact absurd (i12.1 rfl) ((fun k => h8 (oy.c k)))
                      | false =>
                        have h12 : ¬ (cmpD (addD m (pw (y - 1))) g.im ≤ 0) := fun c => Bool.false_ne_true (i12.2 c)
                        exact fin _ (ViewParts_ok_r9 b9 b13) rfl rfl
                    | false =>
                      exact absurd (i11.2 (ox.a h7)) Bool.false_ne_true
                  | false =>
                    have h10 : ¬ (cmpD (addD l (pw (y - 1))) g.re ≤ 0) := fun c => Bool.false_ne_true (i10.2 c)
                    cases b12 with
                    | true =>
                      exact absurd (i12.1 rfl) ((fun k => h8 (oy.c k)))
                    | false =>
                      have h12 : ¬ (cmpD (addD m (pw (y - 1))) g.im ≤ 0) := fun c => Bool.false_ne_true (i12.2 c)
                      cases b11 with
                      | true =>
                        have h11 : cmpD g.re (addD l (pw y)) ≤ 0 := i11.1 rfl
                        exact fin _ (ViewParts_ok_r10 b9 b13) rfl rfl
                      | false =>
                        exact absurd (i11.2 (ox.a h7)) Bool.false_ne_true
              | false =>
                have h7 : ¬ (cmpD g.re (addD l (pw (y - 1))) ≤ 0) := fun c => Bool.false_ne_true (i7.2 c)
                cases b10 with
                | true =>
                  have h10 : cmpD (addD l (pw (y - 1))) g.re ≤ 0 := i10.1 rfl
                  cases b11 with
                  | true =>
                    have h11 : cmpD g.re (addD l (pw y)) ≤ 0 := i11.1 rfl
                    cases b8 with
                    | true =>
                      have h8 : cmpD m g.im ≤ 0 := i8.1 rfl
                      cases b9 with
                      | true =>
                        have h9 : cmpD g.im (addD m (pw (y - 1))) ≤ 0 := i9.1 rfl
                        cases b12 with
                        | true =>
                          have h12 : cmpD (addD m (pw (y - 1))) g.im ≤ 0 := i12.1 rfl
                          cases b13 with
                          | true =>
                            have h13 : cmpD g.im (addD m (pw y)) ≤ 0 := i13.1 rfl
                            exact fin _ (ViewParts_ok_r11) rfl rfl
                          | false =>
                            exact absurd (i13.2 (oy.a h9)) Bool.false_ne_true
                        | false =>
                          have h12 : ¬ (cmpD (addD m (pw (y - 1))) g.im ≤ 0) := fun c => Bool.false_ne_true (i12.2 c)
                          cases b13 with
                          | true =>
                            have h13 : cmpD g.im (addD m (pw y)) ≤ 0 := i13.1 rfl
                            exact fin _ (ViewParts_ok_r12) rfl rfl
                          | false =>
                            exact absurd (i13.2 (oy.a h9)) Bool.false_ne_true
                      | false =>
                        have h9 : ¬ (cmpD g.im (addD m (pw (y - 1))) ≤ 0) := fun c => Bool.false_ne_true (i9.2 c)
                        cases b12 with
                        | true =>
                          have h12 : cmpD (addD m (pw (y - 1))) g.im ≤ 0 := i12.1 rfl
                          cases b13 with
                          | true =>
                            have h13 : cmpD g.im (addD m (pw y)) ≤ 0 := i13.1 rfl
                            exact fin _ (ViewParts_ok_r13) rfl rfl
                          | false =>
                            have h13 : ¬ (cmpD g.im (addD m (pw y)) ≤ 0) := fun c => Bool.false_ne_true (i13.2 c)
                            exact fin _ (ViewParts_ok_r14) rfl rfl
                        | false =>
                          exact absurd (i12.2 (oy.b h9)) Bool.false_ne_true
                    | false =>
                      have h8 : ¬ (cmpD m g.im ≤ 0) := fun c => Bool.false_ne_true (i8.2 c)
                      cases b12 with
                      | true =>
                        exact absurd (i12.1 rfl) ((fun k => h8 (oy.c k)))
                      | false =>
                        have h12 : ¬ (cmpD (addD m (pw (y - 1))) g.im ≤ 0) := fun c => Bool.false_ne_true (i12.2 c)
                        exact fin _ (ViewParts_ok_r15 b9 b13) rfl rfl
                  | false =>
                    have h11 : ¬ (cmpD g.re (addD l (pw y)) ≤ 0) := fun c => Bool.false_ne_true (i11.2 c)
                    exact fin _ (ViewParts_ok_r16 b8 b9 b12 b13) rfl rfl
                | false =>
                  exact absurd (i10.2 (ox.b h7)) Bool.false_ne_true
            | false =>
              have h6 : ¬ (cmpD l g.re ≤ 0) := fun c => Bool.false_ne_true (i6.2 c)
              cases b10 with
              | true =>
                exact absurd (i10.1 rfl) ((fun k => h6 (ox.c k)))
              | false =>
                have h10 : ¬ (cmpD (addD l (pw (y - 1))) g.re ≤ 0) := fun c => Bool.false_ne_true (i10.2 c)
                exact fin _ (ViewParts_ok_r17 b7 b8 b9 b11 b12 b13) rfl rfl
          | false =>
            exact absurd (i3.2 (k4)) Bool.false_ne_true
        | false =>
          exact absurd (i2.2 (k3)) Bool.false_ne_true
      | false =>
        exact absurd (i5.2 (k2)) Bool.false_ne_true
    | false =>
      exact absurd (i4.2 (k1)) Bool.false_ne_true

@[reducible] def ViewParts_c_f : FuncId := 4
@[reducible] def ViewParts_c_a : List AV := [.agg [.sym 0, .sym 1, .sym 2, .sym 3, .sym 4, .sym 5, .sym 6], .agg [.sym 7, .sym 8, .sym 9, .sym 10, .sym 11, .sym 12]]
@[reducible] noncomputable def ViewParts_c_k (b1 b2 b3 b4 b5 : Bool) : Know := ⟨[([0, 11, 3], [.sym 6, .lit (.int .i64 (-4096))], .lit (.bool b1)),
  ([0, 12, 30], [.sym 19, .lit (.int .i64 0)], .lit (.bool (!b2))),
  ([0, 12, 30], [.sym 23, .lit (.int .i64 0)], .lit (.bool (!b3))),
  ([0, 12, 30], [.sym 30, .lit (.int .i64 0)], .lit (.bool (!b4))),
  ([0, 12, 30], [.sym 34, .lit (.int .i64 0)], .lit (.bool (!b5))),
  ([0, 2, 3], [.lit (.int .i64 2), .sym 6], .sym 35),
  ([0, 1, 3], [.sym 6, .lit (.int .i64 1)], .sym 39),
  ([0, 2, 3], [.lit (.int .i64 2), .sym 39], .sym 40),
  ([0, 12, 28], [.agg [.sym 0, .sym 1, .sym 2, .sym 3, .sym 4, .sym 5], .agg [.sym 0, .sym 1, .sym 2, .sym 3, .sym 4, .sym 5]], .lit (.bool false)),
  ([0, 12, 28], [.agg [.sym 27, .sym 28, .sym 29, .sym 31, .sym 32, .sym 33], .agg [.sym 27, .sym 28, .sym 29, .sym 31, .sym 32, .sym 33]], .lit (.bool false)),
  ([0, 12, 28], [.agg [.sym 16, .sym 17, .sym 18, .sym 3, .sym 4, .sym 5], .agg [.sym 16, .sym 17, .sym 18, .sym 3, .sym 4, .sym 5]], .lit (.bool false)),
  ([0, 12, 28], [.agg [.sym 0, .sym 1, .sym 2, .sym 20, .sym 21, .sym 22], .agg [.sym 0, .sym 1, .sym 2, .sym 20, .sym 21, .sym 22]], .lit (.bool false)),
  ([0, 12, 28], [.agg [.sym 16, .sym 17, .sym 18, .sym 20, .sym 21, .sym 22], .agg [.sym 16, .sym 17, .sym 18, .sym 20, .sym 21, .sym 22]], .lit (.bool false)),
  ([0, 11, 24], [.agg [.sym 36, .sym 37, .sym 38], .agg [.sym 36, .sym 37, .sym 38]], .lit (.bool true))],
  [(13, [], .lit (.bool true)),
  (12, [.agg [.sym 0, .sym 1, .sym 2, .sym 3, .sym 4, .sym 5, .sym 6]], .lit (.int .i64 0)),
  (50, [.lit (.int .i64 2), .sym 6], .agg [.sym 13, .sym 14, .sym 15]),
  (20, [.agg [.sym 0, .sym 1, .sym 2], .agg [.sym 13, .sym 14, .sym 15]], .tup [.agg [.sym 16, .sym 17, .sym 18], .sym 19]),
  (20, [.agg [.sym 3, .sym 4, .sym 5], .agg [.sym 13, .sym 14, .sym 15]], .tup [.agg [.sym 20, .sym 21, .sym 22], .sym 23]),
  (50, [.lit (.int .i64 1), .sym 6], .agg [.sym 24, .sym 25, .sym 26]),
  (20, [.agg [.sym 0, .sym 1, .sym 2], .agg [.sym 24, .sym 25, .sym 26]], .tup [.agg [.sym 27, .sym 28, .sym 29], .sym 30]),
  (20, [.agg [.sym 3, .sym 4, .sym 5], .agg [.sym 24, .sym 25, .sym 26]], .tup [.agg [.sym 31, .sym 32, .sym 33], .sym 34]),
  (27, [.lit (.int .i64 1), .sym 35], .tup [.agg [.sym 36, .sym 37, .sym 38], .lit (.int .i64 0)]),
  (25, [.agg [.sym 7, .sym 8, .sym 9, .sym 10, .sym 11, .sym 12]], .lit (.int .i64 2)),
  (20, [.agg [.sym 27, .sym 28, .sym 29], .agg [.sym 24, .sym 25, .sym 26]], .tup [.agg [.sym 16, .sym 17, .sym 18], .sym 19]),
  (20, [.agg [.sym 31, .sym 32, .sym 33], .agg [.sym 24, .sym 25, .sym 26]], .tup [.agg [.sym 20, .sym 21, .sym 22], .sym 23]),
  (12, [.agg [.sym 0, .sym 1, .sym 2, .sym 3, .sym 4, .sym 5, .sym 39]], .lit (.int .i64 0)),
  (50, [.lit (.int .i64 2), .sym 39], .agg [.sym 24, .sym 25, .sym 26]),
  (12, [.agg [.sym 27, .sym 28, .sym 29, .sym 3, .sym 4, .sym 5, .sym 39]], .lit (.int .i64 0)),
  (12, [.agg [.sym 0, .sym 1, .sym 2, .sym 31, .sym 32, .sym 33, .sym 39]], .lit (.int .i64 0)),
  (12, [.agg [.sym 27, .sym 28, .sym 29, .sym 31, .sym 32, .sym 33, .sym 39]], .lit (.int .i64 0)),
  (27, [.lit (.int .i64 1), .sym 40], .tup [.agg [.sym 41, .sym 42, .sym 43], .lit (.int .i64 0)]),
  (20, [.lit (.agg #[.bool false, .string ⟨#[]⟩, .int .i64 0]), .agg [.sym 41, .sym 42, .sym 43]], .tup [.agg [.sym 41, .sym 42, .sym 43], .lit (.int .i64 0)]),
  (20, [.agg [.sym 41, .sym 42, .sym 43], .agg [.sym 41, .sym 42, .sym 43]], .tup [.agg [.sym 44, .sym 45, .sym 46], .lit (.int .i64 0)]),
  (20, [.agg [.sym 44, .sym 45, .sym 46], .agg [.sym 41, .sym 42, .sym 43]], .tup [.agg [.sym 47, .sym 48, .sym 49], .lit (.int .i64 0)]),
  (20, [.agg [.sym 47, .sym 48, .sym 49], .agg [.sym 41, .sym 42, .sym 43]], .tup [.agg [.sym 36, .sym 37, .sym 38], .lit (.int .i64 0)])]⟩
theorem ViewParts_c_r1 : @comes (ViewParts_c_k false true true true true) Tryz.prog glT 3000 ViewParts_c_f ViewParts_c_a = some (.lit (.bool true)) := by kernel_rfl

set_option maxRecDepth 100000 in
set_option maxHeartbeats 4000000 in
theorem ViewParts_c (l m : Dy) (y : Int) (g : Gt) (w : World) (hl : l.Ok) (hm : m.Ok) (he : -4095 ≤ y ∧ y ≤ 4096) (zg : g.Small) (hn : ¬ g.Ok) (k1 : addE l (pw (y - 1)) = 0) (k2 : addE m (pw (y - 1)) = 0) (k3 : addE l (pw y) = 0) (k4 : addE m (pw y) = 0) (hG : Globs glT w) : Calls Tryz.prog 4 #[.agg #[.bool l.g, .string (natS l.n), .int .i64 l.x, .bool m.g, .string (natS m.n), .int .i64 m.x, .int .i64 y], .agg #[.bool g.re.g, .string g.re.s, .int .i64 g.re.x, .bool g.im.g, .string g.im.s, .int .i64 g.im.x]] w fun e w' => e = .returned (.bool true) ∧ Below w.heap.size w w' := by
  obtain ⟨b1, i1⟩ := bex (y = -4096)
  obtain ⟨b2, i2⟩ := bex (addE l (pw y) = 0)
  obtain ⟨b3, i3⟩ := bex (addE m (pw y) = 0)
  obtain ⟨b4, i4⟩ := bex (addE l (pw (y - 1)) = 0)
  obtain ⟨b5, i5⟩ := bex (addE m (pw (y - 1)) = 0)
  letI : Env := mkEnv glT [.bool l.g, .string (natS l.n), .int .i64 l.x, .bool m.g, .string (natS m.n), .int .i64 m.x, .int .i64 y, .bool g.re.g, .string g.re.s, .int .i64 g.re.x, .bool g.im.g, .string g.im.s, .int .i64 g.im.x, .bool (pw y).g, .string (natS (pw y).n), .int .i64 (pw y).x, .bool (addD l (pw y)).g, .string (natS (addD l (pw y)).n), .int .i64 (addD l (pw y)).x, .int .i64 (addE l (pw y)), .bool (addD m (pw y)).g, .string (natS (addD m (pw y)).n), .int .i64 (addD m (pw y)).x, .int .i64 (addE m (pw y)), .bool (pw (y - 1)).g, .string (natS (pw (y - 1)).n), .int .i64 (pw (y - 1)).x, .bool (addD l (pw (y - 1))).g, .string (natS (addD l (pw (y - 1))).n), .int .i64 (addD l (pw (y - 1))).x, .int .i64 (addE l (pw (y - 1))), .bool (addD m (pw (y - 1))).g, .string (natS (addD m (pw (y - 1))).n), .int .i64 (addD m (pw (y - 1))).x, .int .i64 (addE m (pw (y - 1))), .int .i64 (2 * y), .bool (pw (2 * y)).g, .string (natS (pw (2 * y)).n), .int .i64 (pw (2 * y)).x, .int .i64 (y - 1), .int .i64 (2 * (y - 1)), .bool (pw (2 * (y - 1))).g, .string (natS (pw (2 * (y - 1))).n), .int .i64 (pw (2 * (y - 1))).x, .bool (pw (2 * (y - 1) + 1)).g, .string (natS (pw (2 * (y - 1) + 1)).n), .int .i64 (pw (2 * (y - 1) + 1)).x, .bool (tw (2 * (y - 1))).g, .string (natS (tw (2 * (y - 1))).n), .int .i64 (tw (2 * (y - 1))).x] rfl
  have hops : OpsT Tryz.prog (@Know.ops (ViewParts_c_k b1 b2 b3 b4 b5)) := ⟨opt_eql_i rfl rfl i1,
    opt_neq_i rfl rfl i2,
    opt_neq_i rfl rfl i3,
    opt_neq_i rfl rfl i4,
    opt_neq_i rfl rfl i5,
    vopt_mul rfl rfl rfl rfl rfl ⟨by omega, by omega⟩,
    vopt_sub rfl rfl rfl rfl rfl ⟨by omega, by omega⟩,
    vopt_mul rfl rfl rfl rfl rfl ⟨by omega, by omega⟩,
    optG_neq_f (a := ⟨l, m⟩) (b := ⟨l, m⟩) rfl rfl rfl,
    optG_neq_f (a := ⟨addD l (pw (y - 1)), addD m (pw (y - 1))⟩) (b := ⟨addD l (pw (y - 1)), addD m (pw (y - 1))⟩) rfl rfl rfl,
    optG_neq_f (a := ⟨addD l (pw y), m⟩) (b := ⟨addD l (pw y), m⟩) rfl rfl rfl,
    optG_neq_f (a := ⟨l, addD m (pw y)⟩) (b := ⟨l, addD m (pw y)⟩) rfl rfl rfl,
    optG_neq_f (a := ⟨addD l (pw y), addD m (pw y)⟩) (b := ⟨addD l (pw y), addD m (pw y)⟩) rfl rfl rfl,
    optD_eql_t (a := pw (2 * y)) (b := pw (2 * y)) rfl rfl rfl,
    trivial⟩
  have hcalls : CallsT Tryz.prog (@Know.calls (ViewParts_c_k b1 b2 b3 b4 b5)) := ⟨callt rfl rfl fun w hG => awake24_c w hG,
    callt rfl rfl fun w hG => VRight_ok l m y w hl hm ⟨by omega, by omega⟩ hG,
    callt rfl rfl fun w hG => halves_2 y w ⟨by omega, by omega⟩ hG,
    callt rfl rfl fun w hG => DAdd_c l (pw y) w hl (pw_Ok _) hG,
    callt rfl rfl fun w hG => DAdd_c m (pw y) w hm (pw_Ok _) hG,
    callt rfl rfl fun w hG => halves_1 y w ⟨by omega, by omega⟩ hG,
    callt rfl rfl fun w hG => DAdd_c l (pw (y - 1)) w hl (pw_Ok _) hG,
    callt rfl rfl fun w hG => DAdd_c m (pw (y - 1)) w hm (pw_Ok _) hG,
    callt rfl rfl fun w hG => DOf_pw (2 * y) ⟨by omega, by omega⟩ w,
    callt rfl rfl fun w hG => GCheck_no g zg hn w hG,
    callt rfl rfl fun w hG => DAdd_half l y hl ⟨by omega, by omega⟩ k1 w hG,
    callt rfl rfl fun w hG => DAdd_half m y hm ⟨by omega, by omega⟩ k2 w hG,
    callt rfl rfl fun w hG => VRight_ok l m (y - 1) w hl hm ⟨by omega, by omega⟩ hG,
    callt rfl rfl fun w hG => halves_2 (y - 1) w ⟨by omega, by omega⟩ hG,
    callt rfl rfl fun w hG => VRight_ok (addD l (pw (y - 1))) m (y - 1) w (add_Ok hl (pw_Ok _)) hm ⟨by omega, by omega⟩ hG,
    callt rfl rfl fun w hG => VRight_ok l (addD m (pw (y - 1))) (y - 1) w hl (add_Ok hm (pw_Ok _)) ⟨by omega, by omega⟩ hG,
    callt rfl rfl fun w hG => VRight_ok (addD l (pw (y - 1))) (addD m (pw (y - 1))) (y - 1) w (add_Ok hl (pw_Ok _)) (add_Ok hm (pw_Ok _)) ⟨by omega, by omega⟩ hG,
    callt rfl rfl fun w hG => DOf_pw (2 * (y - 1)) ⟨by omega, by omega⟩ w,
    callt rfl rfl fun w hG => (by have h := DAdd_to Dy.zero (pw (2 * (y - 1))) (pw (2 * (y - 1))) (Or.inl rfl) (pw_Ok _) (to0 (2 * (y - 1)) ⟨by omega, by omega⟩) w hG; rw [natS_dz] at h; exact h),
    callt rfl rfl fun w hG => DAdd_to (pw (2 * (y - 1))) (pw (2 * (y - 1))) (pw (2 * (y - 1) + 1)) (pw_Ok _) (pw_Ok _) (to1 (2 * (y - 1)) ⟨by omega, by omega⟩) w hG,
    callt rfl rfl fun w hG => DAdd_to (pw (2 * (y - 1) + 1)) (pw (2 * (y - 1))) (tw (2 * (y - 1))) (pw_Ok _) (pw_Ok _) (to2 (2 * (y - 1)) ⟨by omega, by omega⟩) w hG,
    callt rfl rfl fun w hG => DAdd_to (tw (2 * (y - 1))) (pw (2 * (y - 1))) (pw (2 * y)) (tw_Ok _) (pw_Ok _) (to3 (2 * (y - 1)) (2 * y) ⟨by omega, by omega⟩ (by omega)) w hG,
    trivial⟩
  have fin : ∀ v, @comes (ViewParts_c_k b1 b2 b3 b4 b5) Tryz.prog glT 3000 ViewParts_c_f ViewParts_c_a = some v → ground v = true → Ending.returned (gval v) = .returned (.bool true) → Calls Tryz.prog 4 #[.agg #[.bool l.g, .string (natS l.n), .int .i64 l.x, .bool m.g, .string (natS m.n), .int .i64 m.x, .int .i64 y], .agg #[.bool g.re.g, .string g.re.s, .int .i64 g.re.x, .bool g.im.g, .string g.im.s, .int .i64 g.im.x]] w fun e w' => e = .returned (.bool true) ∧ Below w.heap.size w w' := fun v h1 h2 h3 => (@sym_ok _ (ViewParts_c_k b1 b2 b3 b4 b5) _ (@KnowOk.of _ (ViewParts_c_k b1 b2 b3 b4 b5) _ hops hcalls) (by kernel_rfl) _ _ _ _ h1 rfl h2 _ hG).mono fun e w' h => ⟨h.1.trans h3, h.2⟩
  clear hops hcalls
  cases b1 with
  | true =>
    exact absurd (i1.1 rfl) ((by omega))
  | false =>
    have h1 : ¬ (y = -4096) := fun c => Bool.false_ne_true (i1.2 c)
    cases b4 with
    | true =>
      have h4 : addE l (pw (y - 1)) = 0 := i4.1 rfl
      cases b5 with
      | true =>
        have h5 : addE m (pw (y - 1)) = 0 := i5.1 rfl
        cases b2 with
        | true =>
          have h2 : addE l (pw y) = 0 := i2.1 rfl
          cases b3 with
          | true =>
            have h3 : addE m (pw y) = 0 := i3.1 rfl
            exact fin _ (ViewParts_c_r1) rfl rfl
          | false =>
            exact absurd (i3.2 (k4)) Bool.false_ne_true
        | false =>
          exact absurd (i2.2 (k3)) Bool.false_ne_true
      | false =>
        exact absurd (i5.2 (k2)) Bool.false_ne_true
    | false =>
      exact absurd (i4.2 (k1)) Bool.false_ne_true

@[reducible] def ViewParts_e_f : FuncId := 4
@[reducible] def ViewParts_e_a : List AV := [.agg [.sym 0, .sym 1, .sym 2, .sym 3, .sym 4, .sym 5, .sym 6], .agg [.sym 7, .sym 8, .sym 9, .sym 10, .sym 11, .sym 12]]
@[reducible] noncomputable def ViewParts_e_k (b1 b2 b3 b4 b5 : Bool) : Know := ⟨[([0, 11, 3], [.sym 6, .lit (.int .i64 (-4096))], .lit (.bool b1)),
  ([0, 12, 30], [.sym 19, .lit (.int .i64 0)], .lit (.bool (!b2))),
  ([0, 12, 30], [.sym 30, .lit (.int .i64 0)], .lit (.bool (!b3))),
  ([0, 2, 3], [.lit (.int .i64 2), .sym 6], .sym 35),
  ([0, 12, 30], [.sym 34, .lit (.int .i64 0)], .lit (.bool (!b4))),
  ([0, 12, 30], [.sym 23, .lit (.int .i64 0)], .lit (.bool (!b5))),
  ([0, 1, 3], [.sym 6, .lit (.int .i64 1)], .sym 39)],
  [(13, [], .lit (.bool true)),
  (12, [.agg [.sym 0, .sym 1, .sym 2, .sym 3, .sym 4, .sym 5, .sym 6]], .lit (.int .i64 0)),
  (50, [.lit (.int .i64 2), .sym 6], .agg [.sym 13, .sym 14, .sym 15]),
  (20, [.agg [.sym 0, .sym 1, .sym 2], .agg [.sym 13, .sym 14, .sym 15]], .tup [.agg [.sym 16, .sym 17, .sym 18], .sym 19]),
  (20, [.agg [.sym 3, .sym 4, .sym 5], .agg [.sym 13, .sym 14, .sym 15]], .tup [.agg [.sym 20, .sym 21, .sym 22], .sym 23]),
  (50, [.lit (.int .i64 1), .sym 6], .agg [.sym 24, .sym 25, .sym 26]),
  (20, [.agg [.sym 0, .sym 1, .sym 2], .agg [.sym 24, .sym 25, .sym 26]], .tup [.agg [.sym 27, .sym 28, .sym 29], .sym 30]),
  (20, [.agg [.sym 3, .sym 4, .sym 5], .agg [.sym 24, .sym 25, .sym 26]], .tup [.agg [.sym 31, .sym 32, .sym 33], .sym 34]),
  (27, [.lit (.int .i64 1), .sym 35], .tup [.agg [.sym 36, .sym 37, .sym 38], .lit (.int .i64 0)])]⟩
theorem ViewParts_e_r1 : @comes (ViewParts_e_k false true true true false) Tryz.prog glT 3000 ViewParts_e_f ViewParts_e_a = some (.lit (.bool true)) := by kernel_rfl
theorem ViewParts_e_r2 (b5 : Bool) : @comes (ViewParts_e_k false false true true b5) Tryz.prog glT 3000 ViewParts_e_f ViewParts_e_a = some (.lit (.bool true)) := by kernel_rfl
theorem ViewParts_e_r3 : @comes (ViewParts_e_k false true true false true) Tryz.prog glT 3000 ViewParts_e_f ViewParts_e_a = some (.lit (.bool true)) := by kernel_rfl
theorem ViewParts_e_r4 : @comes (ViewParts_e_k false true true false false) Tryz.prog glT 3000 ViewParts_e_f ViewParts_e_a = some (.lit (.bool true)) := by kernel_rfl
theorem ViewParts_e_r5 (b5 : Bool) : @comes (ViewParts_e_k false false true false b5) Tryz.prog glT 3000 ViewParts_e_f ViewParts_e_a = some (.lit (.bool true)) := by kernel_rfl
theorem ViewParts_e_r6 (b4 : Bool) : @comes (ViewParts_e_k false true false b4 true) Tryz.prog glT 3000 ViewParts_e_f ViewParts_e_a = some (.lit (.bool true)) := by kernel_rfl
theorem ViewParts_e_r7 (b4 : Bool) : @comes (ViewParts_e_k false true false b4 false) Tryz.prog glT 3000 ViewParts_e_f ViewParts_e_a = some (.lit (.bool true)) := by kernel_rfl
theorem ViewParts_e_r8 (b4 b5 : Bool) : @comes (ViewParts_e_k false false false b4 b5) Tryz.prog glT 3000 ViewParts_e_f ViewParts_e_a = some (.lit (.bool true)) := by kernel_rfl

set_option maxRecDepth 100000 in
set_option maxHeartbeats 4000000 in
theorem ViewParts_e (l m : Dy) (y : Int) (g : Gt) (w : World) (hl : l.Ok) (hm : m.Ok) (he : -4095 ≤ y ∧ y ≤ 4096) (hn : ¬ (addE l (pw (y - 1)) = 0 ∧ addE m (pw (y - 1)) = 0 ∧ addE l (pw y) = 0 ∧ addE m (pw y) = 0)) (hG : Globs glT w) : Calls Tryz.prog 4 #[.agg #[.bool l.g, .string (natS l.n), .int .i64 l.x, .bool m.g, .string (natS m.n), .int .i64 m.x, .int .i64 y], .agg #[.bool g.re.g, .string g.re.s, .int .i64 g.re.x, .bool g.im.g, .string g.im.s, .int .i64 g.im.x]] w fun e w' => e = .returned (.bool true) ∧ Below w.heap.size w w' := by
  obtain ⟨b1, i1⟩ := bex (y = -4096)
  obtain ⟨b2, i2⟩ := bex (addE l (pw y) = 0)
  obtain ⟨b3, i3⟩ := bex (addE l (pw (y - 1)) = 0)
  obtain ⟨b4, i4⟩ := bex (addE m (pw (y - 1)) = 0)
  obtain ⟨b5, i5⟩ := bex (addE m (pw y) = 0)
  letI : Env := mkEnv glT [.bool l.g, .string (natS l.n), .int .i64 l.x, .bool m.g, .string (natS m.n), .int .i64 m.x, .int .i64 y, .bool g.re.g, .string g.re.s, .int .i64 g.re.x, .bool g.im.g, .string g.im.s, .int .i64 g.im.x, .bool (pw y).g, .string (natS (pw y).n), .int .i64 (pw y).x, .bool (addD l (pw y)).g, .string (natS (addD l (pw y)).n), .int .i64 (addD l (pw y)).x, .int .i64 (addE l (pw y)), .bool (addD m (pw y)).g, .string (natS (addD m (pw y)).n), .int .i64 (addD m (pw y)).x, .int .i64 (addE m (pw y)), .bool (pw (y - 1)).g, .string (natS (pw (y - 1)).n), .int .i64 (pw (y - 1)).x, .bool (addD l (pw (y - 1))).g, .string (natS (addD l (pw (y - 1))).n), .int .i64 (addD l (pw (y - 1))).x, .int .i64 (addE l (pw (y - 1))), .bool (addD m (pw (y - 1))).g, .string (natS (addD m (pw (y - 1))).n), .int .i64 (addD m (pw (y - 1))).x, .int .i64 (addE m (pw (y - 1))), .int .i64 (2 * y), .bool (pw (2 * y)).g, .string (natS (pw (2 * y)).n), .int .i64 (pw (2 * y)).x, .int .i64 (y - 1)] rfl
  have hops : OpsT Tryz.prog (@Know.ops (ViewParts_e_k b1 b2 b3 b4 b5)) := ⟨opt_eql_i rfl rfl i1,
    opt_neq_i rfl rfl i2,
    opt_neq_i rfl rfl i3,
    vopt_mul rfl rfl rfl rfl rfl ⟨by omega, by omega⟩,
    opt_neq_i rfl rfl i4,
    opt_neq_i rfl rfl i5,
    vopt_sub rfl rfl rfl rfl rfl ⟨by omega, by omega⟩,
    trivial⟩
  have hcalls : CallsT Tryz.prog (@Know.calls (ViewParts_e_k b1 b2 b3 b4 b5)) := ⟨callt rfl rfl fun w hG => awake24_c w hG,
    callt rfl rfl fun w hG => VRight_ok l m y w hl hm ⟨by omega, by omega⟩ hG,
    callt rfl rfl fun w hG => halves_2 y w ⟨by omega, by omega⟩ hG,
    callt rfl rfl fun w hG => DAdd_c l (pw y) w hl (pw_Ok _) hG,
    callt rfl rfl fun w hG => DAdd_c m (pw y) w hm (pw_Ok _) hG,
    callt rfl rfl fun w hG => halves_1 y w ⟨by omega, by omega⟩ hG,
    callt rfl rfl fun w hG => DAdd_c l (pw (y - 1)) w hl (pw_Ok _) hG,
    callt rfl rfl fun w hG => DAdd_c m (pw (y - 1)) w hm (pw_Ok _) hG,
    callt rfl rfl fun w hG => DOf_pw (2 * y) ⟨by omega, by omega⟩ w,
    trivial⟩
  have fin : ∀ v, @comes (ViewParts_e_k b1 b2 b3 b4 b5) Tryz.prog glT 3000 ViewParts_e_f ViewParts_e_a = some v → ground v = true → Ending.returned (gval v) = .returned (.bool true) → Calls Tryz.prog 4 #[.agg #[.bool l.g, .string (natS l.n), .int .i64 l.x, .bool m.g, .string (natS m.n), .int .i64 m.x, .int .i64 y], .agg #[.bool g.re.g, .string g.re.s, .int .i64 g.re.x, .bool g.im.g, .string g.im.s, .int .i64 g.im.x]] w fun e w' => e = .returned (.bool true) ∧ Below w.heap.size w w' := fun v h1 h2 h3 => (@sym_ok _ (ViewParts_e_k b1 b2 b3 b4 b5) _ (@KnowOk.of _ (ViewParts_e_k b1 b2 b3 b4 b5) _ hops hcalls) (by kernel_rfl) _ _ _ _ h1 rfl h2 _ hG).mono fun e w' h => ⟨h.1.trans h3, h.2⟩
  clear hops hcalls
  cases b1 with
  | true =>
    exact absurd (i1.1 rfl) ((by omega))
  | false =>
    have h1 : ¬ (y = -4096) := fun c => Bool.false_ne_true (i1.2 c)
    cases b3 with
    | true =>
      have h3 : addE l (pw (y - 1)) = 0 := i3.1 rfl
      cases b4 with
      | true =>
        have h4 : addE m (pw (y - 1)) = 0 := i4.1 rfl
        cases b2 with
        | true =>
          have h2 : addE l (pw y) = 0 := i2.1 rfl
          cases b5 with
          | true =>
            exact absurd (i5.1 rfl) (fun c => hn ⟨h3, h4, h2, c⟩)
          | false =>
            have h5 : ¬ (addE m (pw y) = 0) := fun c => Bool.false_ne_true (i5.2 c)
            exact fin _ (ViewParts_e_r1) rfl rfl
        | false =>
          have h2 : ¬ (addE l (pw y) = 0) := fun c => Bool.false_ne_true (i2.2 c)
          exact fin _ (ViewParts_e_r2 b5) rfl rfl
      | false =>
        have h4 : ¬ (addE m (pw (y - 1)) = 0) := fun c => Bool.false_ne_true (i4.2 c)
        cases b2 with
        | true =>
          have h2 : addE l (pw y) = 0 := i2.1 rfl
          cases b5 with
          | true =>
            have h5 : addE m (pw y) = 0 := i5.1 rfl
            exact fin _ (ViewParts_e_r3) rfl rfl
          | false =>
            have h5 : ¬ (addE m (pw y) = 0) := fun c => Bool.false_ne_true (i5.2 c)
            exact fin _ (ViewParts_e_r4) rfl rfl
        | false =>
          have h2 : ¬ (addE l (pw y) = 0) := fun c => Bool.false_ne_true (i2.2 c)
          exact fin _ (ViewParts_e_r5 b5) rfl rfl
    | false =>
      have h3 : ¬ (addE l (pw (y - 1)) = 0) := fun c => Bool.false_ne_true (i3.2 c)
      cases b2 with
      | true =>
        have h2 : addE l (pw y) = 0 := i2.1 rfl
        cases b5 with
        | true =>
          have h5 : addE m (pw y) = 0 := i5.1 rfl
          exact fin _ (ViewParts_e_r6 b4) rfl rfl
        | false =>
          have h5 : ¬ (addE m (pw y) = 0) := fun c => Bool.false_ne_true (i5.2 c)
          exact fin _ (ViewParts_e_r7 b4) rfl rfl
      | false =>
        have h2 : ¬ (addE l (pw y) = 0) := fun c => Bool.false_ne_true (i2.2 c)
        exact fin _ (ViewParts_e_r8 b4 b5) rfl rfl

@[reducible] def ViewParts_l_f : FuncId := 4
@[reducible] def ViewParts_l_a : List AV := [.agg [.sym 0, .sym 1, .sym 2, .sym 3, .sym 4, .sym 5, .sym 6], .agg [.sym 7, .sym 8, .sym 9, .sym 10, .sym 11, .sym 12]]
@[reducible] noncomputable def ViewParts_l_k (b1 b2 b3 b4 b5 : Bool) : Know := ⟨[([0, 11, 3], [.sym 6, .lit (.int .i64 (-4096))], .lit (.bool b1)),
  ([0, 12, 30], [.sym 19, .lit (.int .i64 0)], .lit (.bool (!b2))),
  ([0, 12, 30], [.sym 30, .lit (.int .i64 0)], .lit (.bool (!b3))),
  ([0, 2, 3], [.lit (.int .i64 2), .sym 6], .sym 35),
  ([0, 12, 30], [.sym 34, .lit (.int .i64 0)], .lit (.bool (!b4))),
  ([0, 12, 30], [.sym 23, .lit (.int .i64 0)], .lit (.bool (!b5)))],
  [(13, [], .lit (.bool true)),
  (12, [.agg [.sym 0, .sym 1, .sym 2, .sym 3, .sym 4, .sym 5, .sym 6]], .lit (.int .i64 0)),
  (50, [.lit (.int .i64 2), .sym 6], .agg [.sym 13, .sym 14, .sym 15]),
  (20, [.agg [.sym 0, .sym 1, .sym 2], .agg [.sym 13, .sym 14, .sym 15]], .tup [.agg [.sym 16, .sym 17, .sym 18], .sym 19]),
  (20, [.agg [.sym 3, .sym 4, .sym 5], .agg [.sym 13, .sym 14, .sym 15]], .tup [.agg [.sym 20, .sym 21, .sym 22], .sym 23]),
  (50, [.lit (.int .i64 1), .sym 6], .agg [.sym 24, .sym 25, .sym 26]),
  (20, [.agg [.sym 0, .sym 1, .sym 2], .agg [.sym 24, .sym 25, .sym 26]], .tup [.agg [.sym 27, .sym 28, .sym 29], .sym 30]),
  (20, [.agg [.sym 3, .sym 4, .sym 5], .agg [.sym 24, .sym 25, .sym 26]], .tup [.agg [.sym 31, .sym 32, .sym 33], .sym 34]),
  (27, [.lit (.int .i64 1), .sym 35], .tup [.agg [.sym 36, .sym 37, .sym 38], .lit (.int .i64 0)])]⟩
theorem ViewParts_l_r1 : @comes (ViewParts_l_k true true true true true) Tryz.prog glT 3000 ViewParts_l_f ViewParts_l_a = some (.lit (.bool true)) := by kernel_rfl
theorem ViewParts_l_r2 : @comes (ViewParts_l_k true true true false true) Tryz.prog glT 3000 ViewParts_l_f ViewParts_l_a = some (.lit (.bool true)) := by kernel_rfl
theorem ViewParts_l_r3 (b4 : Bool) : @comes (ViewParts_l_k true true false b4 true) Tryz.prog glT 3000 ViewParts_l_f ViewParts_l_a = some (.lit (.bool true)) := by kernel_rfl
theorem ViewParts_l_r4 : @comes (ViewParts_l_k true true true true false) Tryz.prog glT 3000 ViewParts_l_f ViewParts_l_a = some (.lit (.bool true)) := by kernel_rfl
theorem ViewParts_l_r5 : @comes (ViewParts_l_k true true true false false) Tryz.prog glT 3000 ViewParts_l_f ViewParts_l_a = some (.lit (.bool true)) := by kernel_rfl
theorem ViewParts_l_r6 (b4 : Bool) : @comes (ViewParts_l_k true true false b4 false) Tryz.prog glT 3000 ViewParts_l_f ViewParts_l_a = some (.lit (.bool true)) := by kernel_rfl
theorem ViewParts_l_r7 (b5 : Bool) : @comes (ViewParts_l_k true false true true b5) Tryz.prog glT 3000 ViewParts_l_f ViewParts_l_a = some (.lit (.bool true)) := by kernel_rfl
theorem ViewParts_l_r8 (b5 : Bool) : @comes (ViewParts_l_k true false true false b5) Tryz.prog glT 3000 ViewParts_l_f ViewParts_l_a = some (.lit (.bool true)) := by kernel_rfl
theorem ViewParts_l_r9 (b4 b5 : Bool) : @comes (ViewParts_l_k true false false b4 b5) Tryz.prog glT 3000 ViewParts_l_f ViewParts_l_a = some (.lit (.bool true)) := by kernel_rfl

set_option maxRecDepth 100000 in
set_option maxHeartbeats 4000000 in
theorem ViewParts_l (l m : Dy) (y : Int) (g : Gt) (w : World) (hl : l.Ok) (hm : m.Ok) (he : -4096 ≤ y ∧ y ≤ 4096) (h0 : y = -4096) (hG : Globs glT w) : Calls Tryz.prog 4 #[.agg #[.bool l.g, .string (natS l.n), .int .i64 l.x, .bool m.g, .string (natS m.n), .int .i64 m.x, .int .i64 y], .agg #[.bool g.re.g, .string g.re.s, .int .i64 g.re.x, .bool g.im.g, .string g.im.s, .int .i64 g.im.x]] w fun e w' => e = .returned (.bool true) ∧ Below w.heap.size w w' := by
  obtain ⟨b1, i1⟩ := bex (y = -4096)
  obtain ⟨b2, i2⟩ := bex (addE l (pw y) = 0)
  obtain ⟨b3, i3⟩ := bex (addE l (pw (y - 1)) = 0)
  obtain ⟨b4, i4⟩ := bex (addE m (pw (y - 1)) = 0)
  obtain ⟨b5, i5⟩ := bex (addE m (pw y) = 0)
  letI : Env := mkEnv glT [.bool l.g, .string (natS l.n), .int .i64 l.x, .bool m.g, .string (natS m.n), .int .i64 m.x, .int .i64 y, .bool g.re.g, .string g.re.s, .int .i64 g.re.x, .bool g.im.g, .string g.im.s, .int .i64 g.im.x, .bool (pw y).g, .string (natS (pw y).n), .int .i64 (pw y).x, .bool (addD l (pw y)).g, .string (natS (addD l (pw y)).n), .int .i64 (addD l (pw y)).x, .int .i64 (addE l (pw y)), .bool (addD m (pw y)).g, .string (natS (addD m (pw y)).n), .int .i64 (addD m (pw y)).x, .int .i64 (addE m (pw y)), .bool (pw (y - 1)).g, .string (natS (pw (y - 1)).n), .int .i64 (pw (y - 1)).x, .bool (addD l (pw (y - 1))).g, .string (natS (addD l (pw (y - 1))).n), .int .i64 (addD l (pw (y - 1))).x, .int .i64 (addE l (pw (y - 1))), .bool (addD m (pw (y - 1))).g, .string (natS (addD m (pw (y - 1))).n), .int .i64 (addD m (pw (y - 1))).x, .int .i64 (addE m (pw (y - 1))), .int .i64 (2 * y), .bool (pw (2 * y)).g, .string (natS (pw (2 * y)).n), .int .i64 (pw (2 * y)).x] rfl
  have hops : OpsT Tryz.prog (@Know.ops (ViewParts_l_k b1 b2 b3 b4 b5)) := ⟨opt_eql_i rfl rfl i1,
    opt_neq_i rfl rfl i2,
    opt_neq_i rfl rfl i3,
    vopt_mul rfl rfl rfl rfl rfl ⟨by omega, by omega⟩,
    opt_neq_i rfl rfl i4,
    opt_neq_i rfl rfl i5,
    trivial⟩
  have hcalls : CallsT Tryz.prog (@Know.calls (ViewParts_l_k b1 b2 b3 b4 b5)) := ⟨callt rfl rfl fun w hG => awake24_c w hG,
    callt rfl rfl fun w hG => VRight_ok l m y w hl hm ⟨by omega, by omega⟩ hG,
    callt rfl rfl fun w hG => halves_2 y w ⟨by omega, by omega⟩ hG,
    callt rfl rfl fun w hG => DAdd_c l (pw y) w hl (pw_Ok _) hG,
    callt rfl rfl fun w hG => DAdd_c m (pw y) w hm (pw_Ok _) hG,
    callt rfl rfl fun w hG => halves_1 y w ⟨by omega, by omega⟩ hG,
    callt rfl rfl fun w hG => DAdd_c l (pw (y - 1)) w hl (pw_Ok _) hG,
    callt rfl rfl fun w hG => DAdd_c m (pw (y - 1)) w hm (pw_Ok _) hG,
    callt rfl rfl fun w hG => DOf_pw (2 * y) ⟨by omega, by omega⟩ w,
    trivial⟩
  have fin : ∀ v, @comes (ViewParts_l_k b1 b2 b3 b4 b5) Tryz.prog glT 3000 ViewParts_l_f ViewParts_l_a = some v → ground v = true → Ending.returned (gval v) = .returned (.bool true) → Calls Tryz.prog 4 #[.agg #[.bool l.g, .string (natS l.n), .int .i64 l.x, .bool m.g, .string (natS m.n), .int .i64 m.x, .int .i64 y], .agg #[.bool g.re.g, .string g.re.s, .int .i64 g.re.x, .bool g.im.g, .string g.im.s, .int .i64 g.im.x]] w fun e w' => e = .returned (.bool true) ∧ Below w.heap.size w w' := fun v h1 h2 h3 => (@sym_ok _ (ViewParts_l_k b1 b2 b3 b4 b5) _ (@KnowOk.of _ (ViewParts_l_k b1 b2 b3 b4 b5) _ hops hcalls) (by kernel_rfl) _ _ _ _ h1 rfl h2 _ hG).mono fun e w' h => ⟨h.1.trans h3, h.2⟩
  clear hops hcalls
  cases b1 with
  | true =>
    have h1 : y = -4096 := i1.1 rfl
    cases b2 with
    | true =>
      have h2 : addE l (pw y) = 0 := i2.1 rfl
      cases b5 with
      | true =>
        have h5 : addE m (pw y) = 0 := i5.1 rfl
        cases b3 with
        | true =>
          have h3 : addE l (pw (y - 1)) = 0 := i3.1 rfl
          cases b4 with
          | true =>
            have h4 : addE m (pw (y - 1)) = 0 := i4.1 rfl
            exact fin _ (ViewParts_l_r1) rfl rfl
          | false =>
            have h4 : ¬ (addE m (pw (y - 1)) = 0) := fun c => Bool.false_ne_true (i4.2 c)
            exact fin _ (ViewParts_l_r2) rfl rfl
        | false =>
          have h3 : ¬ (addE l (pw (y - 1)) = 0) := fun c => Bool.false_ne_true (i3.2 c)
          exact fin _ (ViewParts_l_r3 b4) rfl rfl
      | false =>
        have h5 : ¬ (addE m (pw y) = 0) := fun c => Bool.false_ne_true (i5.2 c)
        cases b3 with
        | true =>
          have h3 : addE l (pw (y - 1)) = 0 := i3.1 rfl
          cases b4 with
          | true =>
            have h4 : addE m (pw (y - 1)) = 0 := i4.1 rfl
            exact fin _ (ViewParts_l_r4) rfl rfl
          | false =>
            have h4 : ¬ (addE m (pw (y - 1)) = 0) := fun c => Bool.false_ne_true (i4.2 c)
            exact fin _ (ViewParts_l_r5) rfl rfl
        | false =>
          have h3 : ¬ (addE l (pw (y - 1)) = 0) := fun c => Bool.false_ne_true (i3.2 c)
          exact fin _ (ViewParts_l_r6 b4) rfl rfl
    | false =>
      have h2 : ¬ (addE l (pw y) = 0) := fun c => Bool.false_ne_true (i2.2 c)
      cases b3 with
      | true =>
        have h3 : addE l (pw (y - 1)) = 0 := i3.1 rfl
        cases b4 with
        | true =>
          have h4 : addE m (pw (y - 1)) = 0 := i4.1 rfl
          exact fin _ (ViewParts_l_r7 b5) rfl rfl
        | false =>
          have h4 : ¬ (addE m (pw (y - 1)) = 0) := fun c => Bool.false_ne_true (i4.2 c)
          exact fin _ (ViewParts_l_r8 b5) rfl rfl
      | false =>
        have h3 : ¬ (addE l (pw (y - 1)) = 0) := fun c => Bool.false_ne_true (i3.2 c)
        exact fin _ (ViewParts_l_r9 b4 b5) rfl rfl
  | false =>
    exact absurd (i1.2 (h0)) Bool.false_ne_true

@[reducible] def ViewParts_b_f : FuncId := 4
@[reducible] def ViewParts_b_a : List AV := [.agg [.sym 0, .sym 1, .sym 2, .sym 3, .sym 4, .sym 5, .sym 6], .agg [.sym 7, .sym 8, .sym 9, .sym 10, .sym 11, .sym 12]]
@[reducible] noncomputable def ViewParts_b_k : Know := ⟨[],
  [(13, [], .lit (.bool true)),
  (12, [.agg [.sym 0, .sym 1, .sym 2, .sym 3, .sym 4, .sym 5, .sym 6]], .lit (.int .i64 240))]⟩
theorem ViewParts_b_r1 : @comes ViewParts_b_k Tryz.prog glT 3000 ViewParts_b_f ViewParts_b_a = some (.lit (.bool true)) := by kernel_rfl

set_option maxRecDepth 100000 in
set_option maxHeartbeats 4000000 in
theorem ViewParts_b (l m : Dt) (y : Int) (g : Gt) (w : World) (zl : l.s.size ≤ 9223372036854775807) (zm : m.s.size ≤ 9223372036854775807) (hn : ¬ (l.Ok ∧ m.Ok ∧ -4096 ≤ y ∧ y ≤ 4096)) (hG : Globs glT w) : Calls Tryz.prog 4 #[.agg #[.bool l.g, .string l.s, .int .i64 l.x, .bool m.g, .string m.s, .int .i64 m.x, .int .i64 y], .agg #[.bool g.re.g, .string g.re.s, .int .i64 g.re.x, .bool g.im.g, .string g.im.s, .int .i64 g.im.x]] w fun e w' => e = .returned (.bool true) ∧ Below w.heap.size w w' := by
  letI : Env := mkEnv glT [.bool l.g, .string l.s, .int .i64 l.x, .bool m.g, .string m.s, .int .i64 m.x, .int .i64 y, .bool g.re.g, .string g.re.s, .int .i64 g.re.x, .bool g.im.g, .string g.im.s, .int .i64 g.im.x] rfl
  have hops : OpsT Tryz.prog (@Know.ops ViewParts_b_k) := trivial
  have hcalls : CallsT Tryz.prog (@Know.calls ViewParts_b_k) := ⟨callt rfl rfl fun w hG => awake24_c w hG,
    callt rfl rfl fun w hG => VRight_no l m y w zl zm hn hG,
    trivial⟩
  have fin : ∀ v, @comes ViewParts_b_k Tryz.prog glT 3000 ViewParts_b_f ViewParts_b_a = some v → ground v = true → Ending.returned (gval v) = .returned (.bool true) → Calls Tryz.prog 4 #[.agg #[.bool l.g, .string l.s, .int .i64 l.x, .bool m.g, .string m.s, .int .i64 m.x, .int .i64 y], .agg #[.bool g.re.g, .string g.re.s, .int .i64 g.re.x, .bool g.im.g, .string g.im.s, .int .i64 g.im.x]] w fun e w' => e = .returned (.bool true) ∧ Below w.heap.size w w' := fun v h1 h2 h3 => (@sym_ok _ ViewParts_b_k _ (@KnowOk.of _ ViewParts_b_k _ hops hcalls) (by kernel_rfl) _ _ _ _ h1 rfl h2 _ hG).mono fun e w' h => ⟨h.1.trans h3, h.2⟩
  clear hops hcalls
  exact fin _ (ViewParts_b_r1) rfl rfl

theorem ViewParts_law (l m : Dt) (y : Int) (g : Gt) (w : World) (zl : l.s.size ≤ 9223372036854775807) (zm : m.s.size ≤ 9223372036854775807) (zg : g.Small) (hG : Globs glT w) : Calls Tryz.prog 4 #[.agg #[.bool l.g, .string l.s, .int .i64 l.x, .bool m.g, .string m.s, .int .i64 m.x, .int .i64 y], .agg #[.bool g.re.g, .string g.re.s, .int .i64 g.re.x, .bool g.im.g, .string g.im.s, .int .i64 g.im.x]] w fun e w' => e = .returned (.bool true) ∧ Below w.heap.size w w' := by
  by_cases hs : l.Ok ∧ m.Ok ∧ -4096 ≤ y ∧ y ≤ 4096
  · obtain ⟨h1, h2, h3⟩ := hs
    obtain ⟨l, hl, rfl⟩ := Dt.dy h1
    obtain ⟨m, hm, rfl⟩ := Dt.dy h2
    by_cases h0 : y = -4096
    · exact ViewParts_l l m y g w hl hm h3 h0 hG
    · have he : -4095 ≤ y ∧ y ≤ 4096 := by omega
      by_cases hn : addE l (pw (y - 1)) = 0 ∧ addE m (pw (y - 1)) = 0 ∧ addE l (pw y) = 0 ∧ addE m (pw y) = 0
      · obtain ⟨k1, k2, k3, k4⟩ := hn
        by_cases hg : g.Ok
        · obtain ⟨g', hg', rfl⟩ := Gt.gs hg
          exact ViewParts_ok l m y g' w hl hm he hg' k1 k2 k3 k4 (ord_of hl hg'.1 (by omega) k1 k3) (ord_of hm hg'.2 (by omega) k2 k4) hG
        · exact ViewParts_c l m y g w hl hm he zg hg k1 k2 k3 k4 hG
      · exact ViewParts_e l m y g w hl hm he hn hG
  · exact ViewParts_b l m y g w zl zm hs hG

end Go.Proofs.YtjalpocjgpgcfaaGreatDoor
namespace Go.Proofs.YtjalpocjgpgcfaaGreatDoor
open Go Go.RowKit Go.WideShapes Go.ChangeShapes
variable {H : Type} {enc : TypeId × Value → H} {P : Program}

theorem postBelow {f : Func} {s : ChangeSpec} {apart fresh handsOn again : Bool} {W W' : World} {args : Array Value} {v : Value} {ds gs : List (DataW H)} {places pa pv : List MemPlace}
    (whole : DataW.Whole enc P f.params.toList s.vars apart W args.toList ds gs places)
    (res : ∀ (b : Nat) (sp : Nat → Bool) (hd : Bool), DataW.TrodAll enc P W' b sp hd f.resultTypes.toList (v.resultList f.resultTypes.size) (s.fn H (ds ++ gs)).results [])
    (left : ∀ sp : Nat → Bool, (∀ p ∈ places, sp p.block = true) → DataW.TrodAll enc P W' 0 sp true f.params.toList args.toList (s.fn H (ds ++ gs)).args pa)
    (vars : ∀ sp : Nat → Bool, (∀ p ∈ places, sp p.block = true) → DataW.TrodVars enc P W' sp s.vars (s.fn H (ds ++ gs)).vars pv)
    (split : places = pa ++ pv) (below : Below W.heap.size W W')
    (ok : ∀ (j : Nat) (t : TypeId) (r : Value), f.resultTypes[j]? = some t → (v.resultList f.resultTypes.size)[j]? = some r → Value.okWide P W' .any 0 t r) :
    s.post enc P f apart fresh handsOn again W args v W' := by
  have old : ∀ p ∈ places, p.block < W.heap.size := fun p hp => whole.lt p hp
  have same : ∀ p ∈ places, (fun b => decide (b < W.heap.size)) p.block = true := fun p hp => decide_eq_true (old p hp)
  have kept : W.keptBut W' (fun p => p ∈ places ∧ p ∈ pa ++ pv) :=
    World.keptBut_mono (fun p hp => ⟨hp, split ▸ hp⟩) (below.frame (· ∈ places))
  have free : ∀ b off, MemPlace.cell b off ∈ pa ++ pv → W'.frozen? ⟨b, off, none⟩ = false := fun b off hp => by
    have hin : MemPlace.cell b off ∈ places := split ▸ hp
    rw [below.frozen (p := ⟨b, off, none⟩) (old _ hin)]
    obtain ⟨_, _, _, _, _, hz, _⟩ := whole
    exact hz b off hin
  have apartNow : apart = true → (pa ++ pv).Nodup := fun ha => by
    obtain ⟨_, _, _, _, _, _, hn⟩ := whole
    exact split ▸ hn ha
  refine ⟨ds, gs, places, [], pa, pv, whole, res _ _ _, left _ same, vars _ same, ?_, fun _ => ⟨ok, _, _, ([] ++ pa) ++ pv, ⟨[] ++ pa, pv, trodAll_append (left _ (fun _ _ => rfl)) (res _ _ _), vars _ (fun _ _ => rfl), rfl, ?_, ?_⟩, ?_⟩⟩
  · exact World.keptBut_mono (fun p hp => ⟨hp.1, Or.inr (List.mem_append.1 hp.2)⟩) kept
  · intro b off hp; exact free b off (by simpa using hp)
  · intro ha; simpa using apartNow ha
  · intro p hp _; rw [split]; simpa using hp
end Go.Proofs.YtjalpocjgpgcfaaGreatDoor
set_option linter.unusedVariables false
namespace Go.Proofs.YtjalpocjgpgcfaaGreatDoor
open Go.ChangeShapes Go.WideShapes Go.ChangeAt Go.RowKit Go.Joins
variable {H : Type} {enc : TypeId × Value → H}
/-- A Dyad's datum. -/
def dyadD (H : Type) (g : Bool) (s : ByteArray) (x : Int) : DataW H := .agg [.lit (.bool g), .lit (.string s.data.toList), .lit (.int .i64 x)]
set_option maxRecDepth 100000 in
theorem open_dyad {w : World} {base : Nat} {spare : Nat → Bool} {held : Bool} {r : Go.Reach} {b0 : Nat} {v : Value} {d : DataW H} {p : List MemPlace}
    (hv : Value.okWide Tryz.prog w r b0 24 v) (h : DataW.Trod enc Tryz.prog w base spare held 24 v d p) :
    ∃ (g : Bool) (s : ByteArray) (x : Int), v = .agg #[.bool g, .string s, .int .i64 x] ∧ d = dyadD H g s x ∧ p = [] ∧ s.size ≤ maxLen ∧ (Lit.int .i64 x).wf = true := by
  obtain ⟨c0, c1, c2, y0, y1, y2, m, rfl, rfl, rfl, hy0, hy1, hy2⟩ := open_agg3 Tryz.underlying24 (by kernel_rfl) (by kernel_rfl) hv h
  obtain ⟨g, e0, rfl⟩ := DataW.trod_bool Tryz.underlying4 hy0
  obtain ⟨s, e1, rfl, hs⟩ := DataW.trod_string Tryz.underlying22 hy1
  obtain ⟨x, e2, rfl, wx⟩ := DataW.trod_int Tryz.underlying3 hy2
  simp at e0 e1 e2
  subst e0 e1 e2
  exact ⟨g, s, x, rfl, rfl, rfl, hs, wx⟩
set_option maxRecDepth 100000 in
theorem shut_dyad {W' : World} {b : Nat} {sp : Nat → Bool} {hd : Bool} {g : Bool} {s : ByteArray} {x : Int} (hs : s.size ≤ maxLen) (wx : (Lit.int .i64 x).wf = true) :
    DataW.Trod enc Tryz.prog W' b sp hd 24 (.agg #[.bool g, .string s, .int .i64 x]) (dyadD H g s x) [] := by
  simpa [dyadD] using shut_agg3 (enc := enc) (w := W') (base := b) (spare := sp) (held := hd) (y0 := (.lit (.bool g), [])) (y1 := (.lit (.string s.data.toList), [])) (y2 := (.lit (.int .i64 x), [])) Tryz.underlying24 (by kernel_rfl) (by kernel_rfl) ⟨1, by simp [DataW.trod, Tryz.underlying4]⟩ ⟨1, by simp [DataW.trod, Tryz.underlying22, hs]⟩ ⟨1, by simp [DataW.trod, Tryz.underlying3, wx]⟩
theorem int64_bounds {x : Int} (h : (Lit.int .i64 x).wf = true) : -9223372036854775808 ≤ x ∧ x ≤ 9223372036854775807 := by
  unfold Lit.wf at h
  rw [Bool.and_eq_true, decide_eq_true_iff, decide_eq_true_iff] at h
  exact h
theorem float_bound {b : Nat} (h : (Lit.float .f64 b).wf = true) : b < 18446744073709551616 := by
  unfold Lit.wf at h
  exact of_decide_eq_true h
end Go.Proofs.YtjalpocjgpgcfaaGreatDoor
set_option linter.unusedVariables false
set_option linter.unusedSimpArgs false
namespace Go.Proofs.YtjalpocjgpgcfaaGreatDoor
open Go.ChangeShapes Go.WideShapes Go.ChangeAt Go.RowKit Go.Joins Go.Deep Go.ChangeMaps
variable {H : Type} {enc : TypeId × Value → H}
def gaussD (H : Type) (g : Bool) (s : ByteArray) (x : Int) (k : Bool) (r : ByteArray) (y : Int) : DataW H := .agg [dyadD H g s x, dyadD H k r y]
theorem array6 {α : Type} {cs : Array α} (h : cs.size = 6) : ∃ c0 c1 c2 c3 c4 c5, cs = #[c0, c1, c2, c3, c4, c5] := by
  obtain ⟨l⟩ := cs
  match l, h with
  | [c0, c1, c2, c3, c4, c5], _ => exact ⟨c0, c1, c2, c3, c4, c5, rfl⟩
theorem cDyad : Tryz.prog.cellsOf 24 = 3 := by kernel_rfl
theorem cGauss : Tryz.prog.cellsOf 28 = 6 := by kernel_rfl
theorem cBool1 : Tryz.prog.cellsOf 4 = 1 := by kernel_rfl
theorem cNat1 : Tryz.prog.cellsOf 22 = 1 := by kernel_rfl
theorem cInt1 : Tryz.prog.cellsOf 3 = 1 := by kernel_rfl
set_option maxRecDepth 100000 in
theorem trod_dyad {w : World} {base : Nat} {spare : Nat → Bool} {held : Bool} {n : Nat} {c0 c1 c2 : Value} {y : DataW H × List MemPlace} (h : DataW.trod enc Tryz.prog w base spare held n 24 [c0, c1, c2] = some y) :
    ∃ (g : Bool) (s : ByteArray) (x : Int), c0 = .bool g ∧ c1 = .string s ∧ c2 = .int .i64 x ∧ y = (dyadD H g s x, []) ∧ s.size ≤ maxLen ∧ (Lit.int .i64 x).wf = true := by
  obtain ⟨y0, y1, y2, m, rfl, _, h0, h1, h2⟩ := trod_struct3 Tryz.underlying24 h
  simp only [cBool1, cNat1, cInt1, List.drop_zero, List.take_succ_cons, List.take_zero, List.drop_succ_cons] at h0 h1 h2
  obtain ⟨g, e0, rfl⟩ := DataW.trod_bool Tryz.underlying4 h0
  obtain ⟨s, e1, rfl, hs⟩ := DataW.trod_string Tryz.underlying22 h1
  obtain ⟨x, e2, rfl, wx⟩ := DataW.trod_int Tryz.underlying3 h2
  simp at e0 e1 e2
  subst e0 e1 e2
  exact ⟨g, s, x, rfl, rfl, rfl, rfl, hs, wx⟩
set_option maxRecDepth 100000 in
theorem open_gauss {w : World} {base : Nat} {spare : Nat → Bool} {held : Bool} {r : Go.Reach} {b0 : Nat} {v : Value} {d : DataW H} {p : List MemPlace}
    (hv : Value.okWide Tryz.prog w r b0 28 v) (h : DataW.Trod enc Tryz.prog w base spare held 28 v d p) :
    ∃ (g : Bool) (s : ByteArray) (x : Int) (k : Bool) (q : ByteArray) (y : Int), v = .agg #[.bool g, .string s, .int .i64 x, .bool k, .string q, .int .i64 y] ∧ d = gaussD H g s x k q y ∧ p = [] ∧ (s.size ≤ maxLen ∧ (Lit.int .i64 x).wf = true) ∧ (q.size ≤ maxLen ∧ (Lit.int .i64 y).wf = true) := by
  obtain ⟨cs, rfl, hsz⟩ := okWide_struct Tryz.underlying28 hv
  obtain ⟨c0, c1, c2, c3, c4, c5, rfl⟩ := array6 (hsz.trans cGauss)
  obtain ⟨fuel, hf⟩ := h
  obtain ⟨y0, y1, n, hx, _, h0, h1⟩ := trod_struct2 Tryz.underlying28 hf
  simp only [Value.cells, cDyad, List.drop_zero, List.take_succ_cons, List.take_zero, List.drop_succ_cons] at h0 h1
  obtain ⟨g, s, x, rfl, rfl, rfl, rfl, hs, wx⟩ := trod_dyad h0
  obtain ⟨k, q, y, rfl, rfl, rfl, rfl, hq, wy⟩ := trod_dyad h1
  simp only [Prod.mk.injEq] at hx
  obtain ⟨hd, hp⟩ := hx
  exact ⟨g, s, x, k, q, y, rfl, hd, hp, ⟨hs, wx⟩, ⟨hq, wy⟩⟩
theorem shut_trod_dyad {W' : World} {b : Nat} {sp : Nat → Bool} {hd : Bool} {g : Bool} {s : ByteArray} {x : Int} (hs : s.size ≤ maxLen) (wx : (Lit.int .i64 x).wf = true) (n : Nat) :
    DataW.trod enc Tryz.prog W' b sp hd (n + 2) 24 [.bool g, .string s, .int .i64 x] = some (dyadD H g s x, []) := by
  have := trod_struct3_mk (enc := enc) (w := W') (base := b) (spare := sp) (held := hd) (n := n + 1) (cs := [.bool g, .string s, .int .i64 x]) (y0 := (.lit (.bool g), [])) (y1 := (.lit (.string s.data.toList), [])) (y2 := (.lit (.int .i64 x), [])) Tryz.underlying24 (by rw [cDyad]; rfl)
    (by simp [cBool1, DataW.trod, Tryz.underlying4]) (by simp [cNat1, DataW.trod, Tryz.underlying22, hs]) (by simp [cInt1, DataW.trod, Tryz.underlying3, wx])
  simpa [dyadD] using this
set_option maxRecDepth 100000 in
theorem shut_gauss {W' : World} {b : Nat} {sp : Nat → Bool} {hd : Bool} {g : Bool} {s : ByteArray} {x : Int} {k : Bool} {q : ByteArray} {y : Int} (h1 : s.size ≤ maxLen ∧ (Lit.int .i64 x).wf = true) (h2 : q.size ≤ maxLen ∧ (Lit.int .i64 y).wf = true) :
    DataW.Trod enc Tryz.prog W' b sp hd 28 (.agg #[.bool g, .string s, .int .i64 x, .bool k, .string q, .int .i64 y]) (gaussD H g s x k q y) [] := by
  refine ⟨3, ?_⟩
  have := trod_struct2_mk (enc := enc) (w := W') (base := b) (spare := sp) (held := hd) (n := 2) (cs := [.bool g, .string s, .int .i64 x, .bool k, .string q, .int .i64 y]) (y0 := (dyadD H g s x, [])) (y1 := (dyadD H k q y, [])) Tryz.underlying28 (by rw [cGauss]; rfl)
    (by simp only [cDyad, List.drop_zero, List.take_succ_cons, List.take_zero, List.drop_succ_cons]; exact shut_trod_dyad h1.1 h1.2 0) (by simp only [cDyad, List.drop_zero, List.take_succ_cons, List.take_zero, List.drop_succ_cons]; exact shut_trod_dyad h2.1 h2.2 0)
  simpa [gaussD, Value.cells] using this
end Go.Proofs.YtjalpocjgpgcfaaGreatDoor
set_option linter.unusedVariables false
set_option linter.unusedSimpArgs false
namespace Go.Proofs.YtjalpocjgpgcfaaGreatDoor
open Go.ChangeShapes Go.WideShapes Go.ChangeAt Go.RowKit Go.Joins Go.Deep Go.ChangeMaps
variable {H : Type} {enc : TypeId × Value → H}
def squareD (H : Type) (g : Bool) (s : ByteArray) (x : Int) (k : Bool) (r : ByteArray) (y : Int) (e : Int) : DataW H := .agg [dyadD H g s x, dyadD H k r y, .lit (.int .i64 e)]
theorem array7 {α : Type} {cs : Array α} (h : cs.size = 7) : ∃ c0 c1 c2 c3 c4 c5 c6, cs = #[c0, c1, c2, c3, c4, c5, c6] := by
  obtain ⟨l⟩ := cs
  match l, h with
  | [c0, c1, c2, c3, c4, c5, c6], _ => exact ⟨c0, c1, c2, c3, c4, c5, c6, rfl⟩
theorem cSquare : Tryz.prog.cellsOf 26 = 7 := by kernel_rfl
set_option maxRecDepth 100000 in
theorem open_square {w : World} {base : Nat} {spare : Nat → Bool} {held : Bool} {r : Go.Reach} {b0 : Nat} {v : Value} {d : DataW H} {p : List MemPlace}
    (hv : Value.okWide Tryz.prog w r b0 26 v) (h : DataW.Trod enc Tryz.prog w base spare held 26 v d p) :
    ∃ (g : Bool) (s : ByteArray) (x : Int) (k : Bool) (q : ByteArray) (y : Int) (e : Int), v = .agg #[.bool g, .string s, .int .i64 x, .bool k, .string q, .int .i64 y, .int .i64 e] ∧ d = squareD H g s x k q y e ∧ p = [] ∧ (s.size ≤ maxLen ∧ (Lit.int .i64 x).wf = true) ∧ (q.size ≤ maxLen ∧ (Lit.int .i64 y).wf = true) ∧ (Lit.int .i64 e).wf = true := by
  obtain ⟨cs, rfl, hsz⟩ := okWide_struct Tryz.underlying26 hv
  obtain ⟨c0, c1, c2, c3, c4, c5, c6, rfl⟩ := array7 (hsz.trans cSquare)
  obtain ⟨fuel, hf⟩ := h
  obtain ⟨y0, y1, y2, n, hx, _, h0, h1, h2⟩ := trod_struct3 Tryz.underlying26 hf
  simp only [Value.cells, cDyad, cInt1, List.drop_zero, List.take_succ_cons, List.take_zero, List.drop_succ_cons] at h0 h1 h2
  obtain ⟨g, s, x, rfl, rfl, rfl, rfl, hs, wx⟩ := trod_dyad h0
  obtain ⟨k, q, y, rfl, rfl, rfl, rfl, hq, wy⟩ := trod_dyad h1
  obtain ⟨e, e2, rfl, we⟩ := DataW.trod_int Tryz.underlying3 h2
  simp at e2
  subst e2
  simp only [Prod.mk.injEq] at hx
  obtain ⟨hd, hp⟩ := hx
  exact ⟨g, s, x, k, q, y, e, rfl, hd, hp, ⟨hs, wx⟩, ⟨hq, wy⟩, we⟩
set_option maxRecDepth 100000 in
theorem shut_square {W' : World} {b : Nat} {sp : Nat → Bool} {hd : Bool} {g : Bool} {s : ByteArray} {x : Int} {k : Bool} {q : ByteArray} {y : Int} {e : Int} (h1 : s.size ≤ maxLen ∧ (Lit.int .i64 x).wf = true) (h2 : q.size ≤ maxLen ∧ (Lit.int .i64 y).wf = true) (we : (Lit.int .i64 e).wf = true) :
    DataW.Trod enc Tryz.prog W' b sp hd 26 (.agg #[.bool g, .string s, .int .i64 x, .bool k, .string q, .int .i64 y, .int .i64 e]) (squareD H g s x k q y e) [] := by
  refine ⟨3, ?_⟩
  have := trod_struct3_mk (enc := enc) (w := W') (base := b) (spare := sp) (held := hd) (n := 2) (cs := [.bool g, .string s, .int .i64 x, .bool k, .string q, .int .i64 y, .int .i64 e]) (y0 := (dyadD H g s x, [])) (y1 := (dyadD H k q y, [])) (y2 := (.lit (.int .i64 e), [])) Tryz.underlying26 (by rw [cSquare]; rfl)
    (by simp only [cDyad, List.drop_zero, List.take_succ_cons, List.take_zero, List.drop_succ_cons]; exact shut_trod_dyad h1.1 h1.2 0) (by simp only [cDyad, List.drop_zero, List.take_succ_cons, List.take_zero, List.drop_succ_cons]; exact shut_trod_dyad h2.1 h2.2 0) (by simp [cInt1, DataW.trod, Tryz.underlying3, we])
  simpa [squareD, Value.cells] using this
end Go.Proofs.YtjalpocjgpgcfaaGreatDoor
