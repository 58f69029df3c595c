/- Texts put together: SyD D63. -/
import Derived.Test.YtcljdjocknfaiaaDoorV4
import Derived.Test.YtcljdjocknfaiaaDoorV1
set_option linter.unusedVariables false
set_option linter.unusedSimpArgs false
set_option linter.unusedSectionVars false
namespace Go.Proofs.YtcljdjocknfaiaaDoor
open Go Go.RowKit Nt
theorem natS_inj {m n : Nat} : natS m = natS n ↔ m = n := by
  constructor
  · intro h
    have : (natS m).toList = (natS n).toList := by rw [h]
    exact (natS_list_eq m n).1 this
  · rintro rfl; rfl
section
variable [Env]
end
def Dy.one : Dy := ⟨false, 1, 0⟩
theorem natS_dz : natS Dy.zero.n = ⟨#[]⟩ := natS_zero
end Go.Proofs.YtcljdjocknfaiaaDoor
set_option linter.unusedSimpArgs false
set_option linter.unusedVariables false
namespace Go.Proofs.YtcljdjocknfaiaaDoor
open Go Go.RowKit Nt
/-- Does it fit? -/
@[irreducible] def okP (m : Nat) (q : Int) : Bool := decide (¬ (m = 9007199254740992 ∧ q = 971))
theorem okP_iff {m : Nat} {q : Int} : okP m q = true ↔ ¬ (m = 9007199254740992 ∧ q = 971) := by unfold okP; exact decide_eq_true_iff
theorem okP_lt {m : Nat} {q : Int} (h : m < 9007199254740992) : okP m q = true := okP_iff.2 (fun c => by omega)
@[irreducible] def mkW (g : Bool) (m : Nat) (q : Int) : Nat := if okP m q = true then Bt.wf g (pk m q) else 0
theorem mkW_ok {g : Bool} {m : Nat} {q : Int} (h : okP m q = true) : mkW g m q = Bt.wf g (pk m q) := by unfold mkW; rw [if_pos h]
theorem wf_f (x : Nat) : Bt.wf false x = x := by rw [Bt.wf_eq]; rfl
theorem inf_f {m : Nat} {q : Int} (h : ¬ okP m q = true) : Bt.wf false (pk m q) = 9218868437227405312 := by
  have h := Classical.not_not.1 (fun c => h (okP_iff.2 c))
  rw [h.1, h.2, wf_f, pk_eq]; rfl
theorem inf_t {m : Nat} {q : Int} (h : ¬ okP m q = true) : Bt.wf true (pk m q) = 18442240474082181120 := by
  have h := Classical.not_not.1 (fun c => h (okP_iff.2 c))
  rw [h.1, h.2, Bt.wf_eq, if_pos rfl, Bt.topped_eq, pk_eq]; rfl
theorem pk_zero : pk 0 (-1074) = 0 := by rw [pk_eq]; rfl
theorem bMake_i (g : Bool) (m : Nat) (q : Int) (w : World) (h1 : m ≤ 9007199254740992) (hq : -1074 ≤ q) (hq2 : q ≤ 971) (hm : 4503599627370496 ≤ m ∨ q = -1074) {b : Bool} (hb : b = true ↔ okP m q = true) (hG : Globs glT w) :
    Calls Tryd.prog 68 #[.bool g, .int .u64 m, .int .i64 q] w fun e w' => e = .returned (.tuple #[.float .f64 (mkW g m q), .bool b]) ∧ Below w.heap.size w w' := by
  refine (Bt.Make_c g m (by omega) q w (tabs_of hG)).mono ?_
  rintro e w' ⟨rfl, rfl⟩
  refine ⟨?_, Below.refl _ _⟩
  rw [Bool.eq_iff_iff.2 hb]
  by_cases h0 : m = 0
  · subst h0
    obtain rfl : q = -1074 := by omega
    rw [Bt.mkF_zero, Bt.mkB_zero, mkW_ok (okP_lt (by omega)), okP_lt (by omega), pk_zero]
  · by_cases hk : m = 9007199254740992 ∧ q = 971
    · obtain ⟨rfl, rfl⟩ := hk
      have e1 : ¬ okP 9007199254740992 971 = true := fun c => okP_iff.1 c ⟨rfl, rfl⟩
      have e2 : ¬ Bt.mkOk (Bt.od 9007199254740992) ((971 : Int) + Bt.tz 9007199254740992) := by
        rintro ⟨_, _, c⟩
        have h3 := Bt.tz_spec (m := 9007199254740992) (by omega) (by omega)
        have h4 := Bt.bl_lt (m := Bt.od 9007199254740992) (Nat.lt_of_le_of_lt Bt.od_le (by omega))
        revert h3 h4 c
        generalize Bt.tz 9007199254740992 = z
        generalize Bt.od 9007199254740992 = o
        generalize Lib.bitLen o = B
        intro c h3 h4
        have h5 : 9007199254740992 < 2 ^ (B + z) := by rw [← h3.1, Nat.pow_add]; exact Nat.mul_lt_mul_of_pos_right h4 (Nat.two_pow_pos z)
        have h6 : 53 < B + z := pow_lt_of (by rw [show (2 : Nat) ^ 53 = 9007199254740992 by decide]; exact h5)
        omega
      rw [Bt.mkF_no (by omega) e2, Bt.mkB_no (by omega) e2, Bool.eq_false_iff.2 e1]
      unfold mkW; rw [if_neg e1]
    · obtain ⟨e1, e2⟩ := mk_pk (by omega) h1 hq hq2 hm hk
      have e3 : okP m q = true := okP_iff.2 hk
      rw [Bt.mkF_ok (by omega) e1, Bt.mkB_ok e1, e2, mkW_ok e3, e3]
theorem brN_of {m : Nat} (h : m < 9007199254740992) : brN m = m ∧ brB m = true := by
  have := br_lt.2 (show m < 18446744073709551616 by omega)
  exact ⟨brN_yes this, brB_yes this⟩
theorem rM_fits {n : Nat} {x : Int} (h0 : n ≠ 0) : fits (rM n x) := by
  have := br_lt.2 (show rM n x < 18446744073709551616 by have := (rM_b (x := x) h0).1; omega)
  unfold fits; omega
theorem NSmall_r (g : Bool) (n : Nat) (x : Int) (w : World) (hn : (Dy.mk g n x).Num) :
    Calls Tryd.prog 48 #[.string (natS (rM n x))] w fun e w' => e = .returned (.tuple #[.int .u64 (rM n x : Nat), .bool true]) ∧ Below w.heap.size w w' := by
  have h := Small_c (rM n x) w (rM_fits (odd_ne hn.2.1))
  obtain ⟨e1, e2⟩ := brN_of (rM_b (x := x) (odd_ne hn.2.1)).1
  rwa [e1, e2] at h
theorem NShift_r (g : Bool) (n : Nat) (x : Int) (w : World) (hn : (Dy.mk g n x).Num) (h : ¬ 1024 ≤ rT n x) :
    Calls Tryd.prog 47 #[.string (natS n), .int .i64 (-(rQ n x - x))] w fun e w' => e = .returned (.tuple #[.string (natS (rM n x)), .int .i64 0]) ∧ Below w.heap.size w w' := by
  have h0 := odd_ne hn.2.1
  have hf : fits n := hn.1
  by_cases hu : rQ n x ≤ x
  · obtain ⟨e1, _⟩ := rM_up h hu
    by_cases hs : rQ n x = x
    · have e2 : rM n x = n := by rw [e1, hs, Int.sub_self]; simp
      rw [e2, hs, Int.sub_self]
      exact NShift_stay n w hf h0
    · have hff := rM_fits (x := x) h0
      rw [e1] at hff ⊢
      have := NShift_up n (x - rQ n x).toNat w hf h0 (by omega) hff
      rw [show (((x - rQ n x).toNat : Nat) : Int) = -(rQ n x - x) by omega] at this
      exact this
  · obtain ⟨e1, _⟩ := rM_dn h hu
    rw [e1]
    by_cases hs : (rQ n x - x).toNat < nd 2 n
    · have := NShift_down n (rQ n x - x).toNat w hf h0 (by omega) hs
      rw [show (-(((rQ n x - x).toNat : Nat) : Int)) = -(rQ n x - x) by omega] at this
      exact this
    · have := NShift_far n (-(rQ n x - x)) w hf h0 (by omega) (by omega)
      rw [show n / 2 ^ (rQ n x - x).toNat = 0 from Nat.div_eq_of_lt (Nat.lt_of_lt_of_le (lt_nd (b := 2) (by omega)) (Nat.pow_le_pow_right (by omega) (by omega))), natS_zero]
      exact this
/-- The bit below the last one that stays. -/
@[irreducible] def rB (n : Nat) (x : Int) : Nat := dgt 2 n ((rQ n x - x).toNat - 1)
theorem NBit_r (g : Bool) (n : Nat) (x : Int) (w : World) (hn : (Dy.mk g n x).Num) (hu : ¬ rQ n x ≤ x) :
    Calls Tryd.prog 70 #[.string (natS n), .int .i64 (rQ n x - x - 1)] w fun e w' => e = .returned (.tuple #[.int .u8 (rB n x : Nat), .int .i64 0]) ∧ Below w.heap.size w w' := by
  have hb := (rQ_b n x).2
  have hx : -1048576 ≤ x := hn.2.2.1
  have := NBit_c n ((rQ n x - x).toNat - 1) w hn.1 (by omega)
  rw [show (((rQ n x - x).toNat - 1 : Nat) : Int) = rQ n x - x - 1 by omega] at this
  unfold rB
  exact this
theorem DTop_r (g : Bool) (n : Nat) (x : Int) (w : World) (hn : (Dy.mk g n x).Num) : Calls Tryd.prog 44 #[.agg #[.bool g, .string (natS n), .int .i64 x]] w fun e w' => e = .returned (.tuple #[.int .i64 (rT n x), .bool true]) ∧ Below w.heap.size w w' := DTop_num g n x w hn.1 hn.2.1 hn.2.2.1 hn.2.2.2
theorem Least_r (g : Bool) (n : Nat) (x : Int) (w : World) (hn : (Dy.mk g n x).Num) (h : ¬ 1024 ≤ rT n x) :
    Calls Tryd.prog 46 #[.int .i64 (rT n x)] w fun e w' => e = .returned (.int .i64 (rQ n x)) ∧ Below w.heap.size w w' := by
  have e := (rQ_near h).symm
  have hx := hn.2.2
  simp only at hx
  have hr : rT n x = (nd 2 n : Int) - 1 + x := rfl
  have hw1 : wrap64 (rT n x - 52) = rT n x - 52 := IntWalk.wrap64_in _ (by omega)
  clear hr hn h
  generalize rQ n x = q at *
  generalize rT n x = t at *
  go_enter Tryd.func46, Tryd.ntmps46
  go_wp2
  go_ret
  exact ⟨rfl, Below.refl _ _⟩
theorem DCheck_dyr (a : Dy) (ha : a.Ok) (w : World) : Calls Tryd.prog 12 #[.agg #[.bool a.g, .string (natS a.n), .int .i64 a.x]] w fun e w' => e = .returned (.int .i64 0) ∧ Below w.heap.size w w' := by
  have h := DCheck_c a.t w (by have := Dy.small ha; show (natS a.n).size ≤ _; omega)
  rwa [dE_ok (fun t ht => by rw [List.mem_singleton.1 ht]; exact Dy.ok_t ha)] at h
theorem rW_dn {g : Bool} {n : Nat} {x : Int} (hn : (Dy.mk g n x).Num) (h : ¬ 1024 ≤ rT n x) (hu : ¬ rQ n x ≤ x) : rW n x = if rB n x = 0 then 1 else if rQ n x - x = 1 then 2 else 3 := by
  rw [(rM_dn h hu).2, rest_bits hn.2.1 (by omega)]
  unfold rB
  split
  · rfl
  · by_cases hk : rQ n x - x = 1
    · rw [if_pos hk, if_pos (by omega)]
    · rw [if_neg hk, if_neg (by omega)]
@[irreducible] def upNear (n : Nat) (x : Int) : Bool := decide (rW n x = 3 ∨ (rW n x = 2 ∧ rM n x % 2 = 1))
@[irreducible] def upAbove (g : Bool) (n : Nat) (x : Int) : Bool := !g && decide (rW n x ≠ 0)
@[irreducible] def upBelow (g : Bool) (n : Nat) (x : Int) : Bool := g && decide (rW n x ≠ 0)
theorem upNear_t {n : Nat} {x : Int} (h : rW n x = 3 ∨ (rW n x = 2 ∧ rM n x % 2 = 1)) : upNear n x = true := by unfold upNear; exact decide_eq_true h
theorem upNear_f {n : Nat} {x : Int} (h : ¬ (rW n x = 3 ∨ (rW n x = 2 ∧ rM n x % 2 = 1))) : upNear n x = false := by unfold upNear; exact decide_eq_false h
theorem upAbove_n (n : Nat) (x : Int) : upAbove true n x = false := by unfold upAbove; rfl
theorem upBelow_n (n : Nat) (x : Int) : upBelow false n x = false := by unfold upBelow; rfl
theorem upAbove_t {n : Nat} {x : Int} (h : rW n x ≠ 0) : upAbove false n x = true := by unfold upAbove; simp [h]
theorem upBelow_t {n : Nat} {x : Int} (h : rW n x ≠ 0) : upBelow true n x = true := by unfold upBelow; simp [h]
theorem upAbove_f {n : Nat} {x : Int} (h : rW n x = 0) : upAbove false n x = false := by unfold upAbove; simp [h]
theorem upBelow_f {n : Nat} {x : Int} (h : rW n x = 0) : upBelow true n x = false := by unfold upBelow; simp [h]
section
variable [Env]
theorem opt_un {P : Program} {op : UnOp} {t : TypeId} {a r : AV} (hr : ground r = true) (h : ∀ w, (Op.unary op (gval a)).run P w = .ok (gval r) w) : OpT P [1, unKey op, t] [a] r := by
  refine ⟨hr, fun o xs hk ρ hρ hx w => ?_⟩
  unfold keyOf at hk
  obtain ⟨dst, o, type, pos, after, guard⟩ := o
  simp only at hk
  split at hk
  · simp only [Option.some.injEq, Prod.mk.injEq, List.cons.injEq] at hk; have := hk.1.1; omega
  · rename_i op' t' x
    simp only [Option.some.injEq, Prod.mk.injEq, List.cons.injEq, and_true, true_and] at hk
    obtain ⟨⟨h1, h2⟩, h3⟩ := hk
    subst h2 h3
    have ho : op' = op := by cases op' <;> cases op <;> first | rfl | cases h1
    subst ho
    simp only [List.map_cons, List.map_nil, List.cons.injEq, and_true] at hx
    have := h w
    simp only [execOp, hx, Sem.run_bind, Sem.run_pure] at this ⊢
    rw [this]; rfl
  all_goals first
    | (simp only [Option.some.injEq, Prod.mk.injEq, List.cons.injEq] at hk; have := hk.1.1; omega)
    | (split at hk <;> first | cases hk | (simp only [Option.some.injEq, Prod.mk.injEq, List.cons.injEq] at hk; have := hk.1.1; omega))
    | cases hk
theorem opt_sub {P : Program} {t : TypeId} {a b r : AV} {x y z : Int} (ha : gval a = .int .i64 x) (hb : gval b = .int .i64 y) (hr : ground r = true) (hv : gval r = .int .i64 z) (h : x - y = z) (h1 : -9223372036854775808 ≤ z ∧ z ≤ 9223372036854775807) : OpT P [0, 1, t] [a, b] r :=
  opt_int (op := .sub) ha hb hr hv fun w => by
    have : IntKind.i64.wrap (x - y) = z := by rw [h]; exact IntWalk.i64_in _ h1
    simp [binOp, Op.intArith, this]
theorem opt_neg {P : Program} {t : TypeId} {a r : AV} {x z : Int} (ha : gval a = .int .i64 x) (hr : ground r = true) (hv : gval r = .int .i64 z) (h : -x = z) (h1 : -9223372036854775808 ≤ z ∧ z ≤ 9223372036854775807) : OpT P [1, 0, t] [a] r :=
  opt_un (op := .neg) hr fun w => by
    have : IntKind.i64.wrap (0 - x) = z := by rw [Int.zero_sub, h]; exact IntWalk.i64_in _ h1
    rw [ha, hv]; simp only [Op.unary, Op.intArith, this]; rfl
theorem opt_add64 {P : Program} {t : TypeId} {a b r : AV} {x y z : Nat} (ha : gval a = .int .u64 x) (hb : gval b = .int .u64 y) (hr : ground r = true) (hv : gval r = .int .u64 z) (h : x + y = z) (h1 : z < 18446744073709551616) : OpT P [0, 0, t] [a, b] r :=
  opt_int (op := .add) ha hb hr hv fun w => by
    have : IntKind.u64.wrap ((x : Int) + (y : Int)) = z := by rw [IntKind.wrap_u64]; omega
    simp [binOp, Op.intArith, this]
theorem opt_odd {P : Program} {t : TypeId} {a b r : AV} {x : Nat} (ha : gval a = .int .u64 x) (hb : gval b = .int .u64 1) (hr : ground r = true) (hv : gval r = .int .u64 (x % 2 : Nat)) (h1 : x < 18446744073709551616) : OpT P [0, 5, t] [a, b] r :=
  opt_int (op := .and) ha hb hr hv fun w => by
    have : bits BinOp.and IntKind.u64 (x : Int) 1 = ((x % 2 : Nat) : Int) := by
      have e1 : (BitVec.ofInt 64 (x : Int)).toNat = x := by
        rw [BitVec.ofInt_natCast, BitVec.toNat_ofNat]; exact Nat.mod_eq_of_lt (by omega)
      have e2 : (BitVec.ofInt 64 (1 : Int)).toNat = 1 := by decide
      show IntKind.u64.wrap ((BitVec.ofInt 64 (x : Int) &&& BitVec.ofInt 64 (1 : Int)).toNat : Int) = _
      rw [BitVec.toNat_and, e1, e2, Nat.and_one_is_mod, IntKind.wrap_u64]
      omega
    go_simp
end
end Go.Proofs.YtcljdjocknfaiaaDoor
