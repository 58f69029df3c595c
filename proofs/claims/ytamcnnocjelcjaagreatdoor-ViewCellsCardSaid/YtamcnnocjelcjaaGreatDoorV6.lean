/- Texts put together: G2 G3 V1 Aw24 V4 GBox VC1 VC2 VW VC5 VC6 VC3. -/
import Derived.Test.YtamcnnocjelcjaaGreatDoorV5
import Derived.Test.YtamcnnocjelcjaaGreatDoorV4
import Derived.Deep.RegionHeld3
set_option linter.unusedVariables false
set_option linter.unusedSimpArgs false
namespace Go.Proofs.YtamcnnocjelcjaaGreatDoor
open Go Go.RowKit Nt
def All0 : List Int → Prop
  | [] => True
  | t :: l => t = 0 ∧ All0 l
instance All0.dec : ∀ l, Decidable (All0 l)
  | [] => .isTrue trivial
  | t :: l => @instDecidableAnd _ _ _ (All0.dec l)
@[irreducible] def erI (l : List Int) : Int := if All0 l then 0 else 4
@[irreducible] def erG (l : List Int) (d : Gs) : Gs := if All0 l then d else Gs.zero
theorem erI_ok {l : List Int} (h : All0 l) : erI l = 0 := by unfold erI; exact if_pos h
theorem erI_no {l : List Int} (h : ¬ All0 l) : erI l = 4 := by unfold erI; exact if_neg h
theorem erG_ok {l : List Int} {d : Gs} (h : All0 l) : erG l d = d := by unfold erG; exact if_pos h
theorem erG_no {l : List Int} {d : Gs} (h : ¬ All0 l) : erG l d = Gs.zero := by unfold erG; exact if_neg h
theorem erG_Ok {l : List Int} {d : Gs} (h : d.Ok) : (erG l d).Ok := by
  by_cases c : All0 l
  · rw [erG_ok c]; exact h
  · rw [erG_no c]; exact Gs.zero_Ok
theorem mkE4 {n : Nat} {x : Int} (h : ¬ mkE n x = 0) : mkE n x = 4 := by
  by_cases c : mkOk3 n x
  · exact absurd (mkE_ok c) h
  · exact mkE_no c
theorem addE4 {a b : Dy} (h : ¬ addE a b = 0) : addE a b = 4 := by
  by_cases h0 : a.n = 0
  · exact absurd (add_zl h0).2 h
  · by_cases h1 : b.n = 0
    · exact absurd (add_zr h0 h1).2 h
    · by_cases h2 : a.x < b.x
      · rw [(add_lt h0 h1 h2).2, hiE_eq] at h ⊢; exact mkE4 h
      · rw [(add_ge h0 h1 h2).2, hiE_eq] at h ⊢; exact mkE4 h
def neG (a : Gs) : Gs := ⟨negD a.re, negD a.im⟩
theorem neG_Ok {a : Gs} (h : a.Ok) : (neG a).Ok := ⟨negD_Ok h.1, negD_Ok h.2⟩
def gaddL (a b : Gs) : List Int := [addE a.re b.re, addE a.im b.im]
def gaddD (a b : Gs) : Gs := erG (gaddL a b) ⟨addD a.re b.re, addD a.im b.im⟩
def gaddE (a b : Gs) : Int := erI (gaddL a b)
theorem gaddD_Ok {a b : Gs} (ha : a.Ok) (hb : b.Ok) : (gaddD a b).Ok := erG_Ok ⟨add_Ok ha.1 hb.1, add_Ok ha.2 hb.2⟩
end Go.Proofs.YtamcnnocjelcjaaGreatDoor
namespace Go.Proofs.YtamcnnocjelcjaaGreatDoor
open Go Go.RowKit Nt
@[reducible] noncomputable def GCheck_c_k1 : Know := ⟨[([0, 11, 26], [.agg [.sym 0, .sym 1, .sym 2, .sym 3, .sym 4, .sym 5], .lit (.agg #[.bool false, .string ⟨#[]⟩, .int .i64 0, .bool false, .string ⟨#[]⟩, .int .i64 0])], .lit (.bool true))],
  []⟩
theorem GCheck_c_r1 : @comes GCheck_c_k1 Tryz.prog glT 3000 19 [.agg [.sym 0, .sym 1, .sym 2, .sym 3, .sym 4, .sym 5]] = some (.lit (.int .i64 0)) := by kernel_rfl
@[reducible] noncomputable def GCheck_c_k2 : Know := ⟨[([0, 11, 26], [.agg [.sym 0, .sym 1, .sym 2, .sym 3, .sym 4, .sym 5], .lit (.agg #[.bool false, .string ⟨#[]⟩, .int .i64 0, .bool false, .string ⟨#[]⟩, .int .i64 0])], .lit (.bool false)),
  ([0, 12, 31], [.sym 6, .lit (.int .i64 0)], .lit (.bool false)),
  ([0, 12, 31], [.sym 7, .lit (.int .i64 0)], .lit (.bool false))],
  [(40, [.agg [.sym 0, .sym 1, .sym 2]], .sym 6),
  (40, [.agg [.sym 3, .sym 4, .sym 5]], .sym 7)]⟩
theorem GCheck_c_r2 : @comes GCheck_c_k2 Tryz.prog glT 3000 19 [.agg [.sym 0, .sym 1, .sym 2, .sym 3, .sym 4, .sym 5]] = some (.lit (.int .i64 0)) := by kernel_rfl
@[reducible] noncomputable def GCheck_c_k3 : Know := ⟨[([0, 11, 26], [.agg [.sym 0, .sym 1, .sym 2, .sym 3, .sym 4, .sym 5], .lit (.agg #[.bool false, .string ⟨#[]⟩, .int .i64 0, .bool false, .string ⟨#[]⟩, .int .i64 0])], .lit (.bool false)),
  ([0, 12, 31], [.sym 6, .lit (.int .i64 0)], .lit (.bool false)),
  ([0, 12, 31], [.sym 7, .lit (.int .i64 0)], .lit (.bool true))],
  [(40, [.agg [.sym 0, .sym 1, .sym 2]], .sym 6),
  (40, [.agg [.sym 3, .sym 4, .sym 5]], .sym 7)]⟩
theorem GCheck_c_r3 : @comes GCheck_c_k3 Tryz.prog glT 3000 19 [.agg [.sym 0, .sym 1, .sym 2, .sym 3, .sym 4, .sym 5]] = some (.lit (.int .i64 2)) := by kernel_rfl
@[reducible] noncomputable def GCheck_c_k4 : Know := ⟨[([0, 11, 26], [.agg [.sym 0, .sym 1, .sym 2, .sym 3, .sym 4, .sym 5], .lit (.agg #[.bool false, .string ⟨#[]⟩, .int .i64 0, .bool false, .string ⟨#[]⟩, .int .i64 0])], .lit (.bool false)),
  ([0, 12, 31], [.sym 6, .lit (.int .i64 0)], .lit (.bool true))],
  [(40, [.agg [.sym 0, .sym 1, .sym 2]], .sym 6)]⟩
theorem GCheck_c_r4 : @comes GCheck_c_k4 Tryz.prog glT 3000 19 [.agg [.sym 0, .sym 1, .sym 2, .sym 3, .sym 4, .sym 5]] = some (.lit (.int .i64 2)) := by kernel_rfl
set_option maxRecDepth 100000 in
theorem GCheck_c (a : Gt) (w : World) (hre : a.re.s.size ≤ 9223372036854775807) (him : a.im.s.size ≤ 9223372036854775807) (hG : Globs glT w) : Calls Tryz.prog 19 #[.agg #[.bool a.re.g, .string a.re.s, .int .i64 a.re.x, .bool a.im.g, .string a.im.s, .int .i64 a.im.x]] w fun e w' => e = .returned (.int .i64 (gE a)) ∧ Below w.heap.size w w' := by
  by_cases h1 : a = Gt.zero
  · letI : Env := mkEnv glT [.bool a.re.g, .string a.re.s, .int .i64 a.re.x, .bool a.im.g, .string a.im.s, .int .i64 a.im.x] rfl
    have hops : OpsT Tryz.prog (@Know.ops GCheck_c_k1) := ⟨optU_eql_t (a := a) (b := Gt.zero) rfl Gt.zero_v.symm h1, trivial⟩
    have hcalls : CallsT Tryz.prog (@Know.calls GCheck_c_k1) := trivial
    exact (@sym_ok _ GCheck_c_k1 _ (@KnowOk.of _ GCheck_c_k1 _ hops hcalls) (by kernel_rfl) _ _ _ _ GCheck_c_r1 rfl rfl _ hG).mono fun e w' h => ⟨h.1.trans (show Ending.returned (.int .i64 0) = .returned (.int .i64 (gE a)) from by rw [gE_ok (show a.Ok from h1 ▸ ⟨Dt.zero_Ok, Dt.zero_Ok⟩)]), h.2⟩
  · by_cases h2 : dE [a.re] = 0
    · by_cases h3 : dE [a.im] = 0
      · letI : Env := mkEnv glT [.bool a.re.g, .string a.re.s, .int .i64 a.re.x, .bool a.im.g, .string a.im.s, .int .i64 a.im.x, .int .i64 (dE [a.re]), .int .i64 (dE [a.im])] rfl
        have hops : OpsT Tryz.prog (@Know.ops GCheck_c_k2) := ⟨optU_eql_f (a := a) (b := Gt.zero) rfl Gt.zero_v.symm h1, opt_neq_f rfl rfl h2, opt_neq_f rfl rfl h3, trivial⟩
        have hcalls : CallsT Tryz.prog (@Know.calls GCheck_c_k2) := ⟨callt rfl rfl fun w hG => DCheck_c a.re w hre, callt rfl rfl fun w hG => DCheck_c a.im w him, trivial⟩
        exact (@sym_ok _ GCheck_c_k2 _ (@KnowOk.of _ GCheck_c_k2 _ hops hcalls) (by kernel_rfl) _ _ _ _ GCheck_c_r2 rfl rfl _ hG).mono fun e w' h => ⟨h.1.trans (show Ending.returned (.int .i64 0) = .returned (.int .i64 (gE a)) from by rw [gE_ok ⟨dE1.1 h2, dE1.1 h3⟩]), h.2⟩
      · letI : Env := mkEnv glT [.bool a.re.g, .string a.re.s, .int .i64 a.re.x, .bool a.im.g, .string a.im.s, .int .i64 a.im.x, .int .i64 (dE [a.re]), .int .i64 (dE [a.im])] rfl
        have hops : OpsT Tryz.prog (@Know.ops GCheck_c_k3) := ⟨optU_eql_f (a := a) (b := Gt.zero) rfl Gt.zero_v.symm h1, opt_neq_f rfl rfl h2, opt_neq_t rfl rfl h3, trivial⟩
        have hcalls : CallsT Tryz.prog (@Know.calls GCheck_c_k3) := ⟨callt rfl rfl fun w hG => DCheck_c a.re w hre, callt rfl rfl fun w hG => DCheck_c a.im w him, trivial⟩
        exact (@sym_ok _ GCheck_c_k3 _ (@KnowOk.of _ GCheck_c_k3 _ hops hcalls) (by kernel_rfl) _ _ _ _ GCheck_c_r3 rfl rfl _ hG).mono fun e w' h => ⟨h.1.trans (show Ending.returned (.int .i64 2) = .returned (.int .i64 (gE a)) from by rw [gE_no (fun c => h3 (dE1.2 c.2))]), h.2⟩
    · letI : Env := mkEnv glT [.bool a.re.g, .string a.re.s, .int .i64 a.re.x, .bool a.im.g, .string a.im.s, .int .i64 a.im.x, .int .i64 (dE [a.re])] rfl
      have hops : OpsT Tryz.prog (@Know.ops GCheck_c_k4) := ⟨optU_eql_f (a := a) (b := Gt.zero) rfl Gt.zero_v.symm h1, opt_neq_t rfl rfl h2, trivial⟩
      have hcalls : CallsT Tryz.prog (@Know.calls GCheck_c_k4) := ⟨callt rfl rfl fun w hG => DCheck_c a.re w hre, trivial⟩
      exact (@sym_ok _ GCheck_c_k4 _ (@KnowOk.of _ GCheck_c_k4 _ hops hcalls) (by kernel_rfl) _ _ _ _ GCheck_c_r4 rfl rfl _ hG).mono fun e w' h => ⟨h.1.trans (show Ending.returned (.int .i64 2) = .returned (.int .i64 (gE a)) from by rw [gE_no (fun c => h2 (dE1.2 c.1))]), h.2⟩
theorem GCheck_gs (a : Gs) (ha : a.Ok) (w : World) (hG : Globs glT w) : Calls Tryz.prog 19 #[.agg #[.bool a.re.g, .string (natS a.re.n), .int .i64 a.re.x, .bool a.im.g, .string (natS a.im.n), .int .i64 a.im.x]] w fun e w' => e = .returned (.int .i64 0) ∧ Below w.heap.size w w' := by
  have h := GCheck_c a.t w (by have := Dy.small ha.1; show (natS a.re.n).size ≤ _; omega) (by have := Dy.small ha.2; show (natS a.im.n).size ≤ _; omega) hG
  rwa [gE_ok (Gs.ok_t ha)] at h
theorem GCheck_no (a : Gt) (hs : a.Small) (hn : ¬ a.Ok) (w : World) (hG : Globs glT w) : Calls Tryz.prog 19 #[.agg #[.bool a.re.g, .string a.re.s, .int .i64 a.re.x, .bool a.im.g, .string a.im.s, .int .i64 a.im.x]] w fun e w' => e = .returned (.int .i64 2) ∧ Below w.heap.size w w' := by
  have h := GCheck_c a w hs.1 hs.2 hG
  rwa [gE_no hn] at h
end Go.Proofs.YtamcnnocjelcjaaGreatDoor
namespace Go.Proofs.YtamcnnocjelcjaaGreatDoor
open Go Go.RowKit Nt
section
variable [Env]
theorem vopt_sub {P : Program} {t : TypeId} {a b r : AV} {x y z : Int} (ha : gval a = .int .i64 x) (hb : gval b = .int .i64 y) (hr : ground r = true) (hv : gval r = .int .i64 z) (h : x - y = z) (h1 : -9223372036854775808 ≤ z ∧ z ≤ 9223372036854775807) : OpT P [0, 1, t] [a, b] r :=
  opt_int (op := .sub) ha hb hr hv fun w => by
    have : IntKind.i64.wrap (x - y) = z := by rw [h]; exact IntWalk.i64_in _ h1
    simp [binOp, Op.intArith, this]
theorem vopt_mul {P : Program} {t : TypeId} {a b r : AV} {x y z : Int} (ha : gval a = .int .i64 x) (hb : gval b = .int .i64 y) (hr : ground r = true) (hv : gval r = .int .i64 z) (h : x * y = z) (h1 : -9223372036854775808 ≤ z ∧ z ≤ 9223372036854775807) : OpT P [0, 2, t] [a, b] r :=
  opt_int (op := .mul) ha hb hr hv fun w => by
    have : IntKind.i64.wrap (x * y) = z := by rw [h]; exact IntWalk.i64_in _ h1
    simp [binOp, Op.intArith, this]
theorem opt_self_neq {P : Program} {t : TypeId} {A : AV} (h : ∀ p q w, (do eqGuard .neq t p q (gval A) (gval A); binOp .neq t (gval A) (gval A)).run P w = .ok (.bool false) w) : OpT P [0, 12, t] [A, A] (.lit (.bool false)) :=
  opt_bin (op := .neq) (r := .lit (.bool false)) rfl h
end
theorem vMay_i (t : Dt) (w : World) (hs : t.s.size ≤ 9223372036854775807) {c : Bool} (h : c = true ↔ t.Ok) : Calls Tryz.prog 28 #[.agg #[.bool t.g, .string t.s, .int .i64 t.x]] w fun e w' => e = .returned (.bool c) ∧ Below w.heap.size w w' := by
  by_cases ho : t.Ok
  · rw [h.2 ho]
    obtain ⟨d, h1, rfl⟩ := Dt.dy ho
    exact rMayT_ok d w h1
  · rw [show c = false by cases c <;> first | rfl | exact absurd (h.1 rfl) ho]
    exact rMayT_no t w hs ho
@[reducible] def rGMay_no_f : FuncId := 10
@[reducible] def rGMay_no_a : List AV := [.agg [.sym 0, .sym 1, .sym 2, .sym 3, .sym 4, .sym 5]]
@[reducible] noncomputable def rGMay_no_k (b1 b2 : Bool) : Know := ⟨[],
  [(28, [.agg [.sym 0, .sym 1, .sym 2]], .lit (.bool b1)),
  (28, [.agg [.sym 3, .sym 4, .sym 5]], .lit (.bool b2))]⟩
theorem rGMay_no_r1 (b2 : Bool) : @comes (rGMay_no_k true b2) Tryz.prog glT 3000 rGMay_no_f rGMay_no_a = some (.lit (.bool b2)) := by kernel_rfl
theorem rGMay_no_r2 (b2 : Bool) : @comes (rGMay_no_k false b2) Tryz.prog glT 3000 rGMay_no_f rGMay_no_a = some (.lit (.bool false)) := by kernel_rfl
set_option maxRecDepth 100000 in
set_option maxHeartbeats 4000000 in
theorem rGMay_no (g : Gt) (w : World) (zgre : g.re.s.size ≤ 9223372036854775807) (zgim : g.im.s.size ≤ 9223372036854775807) (hn : ¬ g.Ok) (hG : Globs glT w) : Calls Tryz.prog 10 #[.agg #[.bool g.re.g, .string g.re.s, .int .i64 g.re.x, .bool g.im.g, .string g.im.s, .int .i64 g.im.x]] w fun e w' => e = .returned (.bool false) ∧ Below w.heap.size w w' := by
  obtain ⟨b1, i1⟩ := bex (g.re.Ok)
  obtain ⟨b2, i2⟩ := bex (g.im.Ok)
  letI : Env := mkEnv glT [.bool g.re.g, .string g.re.s, .int .i64 g.re.x, .bool g.im.g, .string g.im.s, .int .i64 g.im.x] rfl
  have hops : OpsT Tryz.prog (@Know.ops (rGMay_no_k b1 b2)) := trivial
  have hcalls : CallsT Tryz.prog (@Know.calls (rGMay_no_k b1 b2)) := ⟨callt rfl rfl fun w hG => vMay_i g.re w zgre i1,
    callt rfl rfl fun w hG => vMay_i g.im w zgim i2,
    trivial⟩
  have fin : ∀ v, @comes (rGMay_no_k b1 b2) Tryz.prog glT 3000 rGMay_no_f rGMay_no_a = some v → ground v = true → Ending.returned (gval v) = .returned (.bool false) → Calls Tryz.prog 10 #[.agg #[.bool g.re.g, .string g.re.s, .int .i64 g.re.x, .bool g.im.g, .string g.im.s, .int .i64 g.im.x]] w fun e w' => e = .returned (.bool false) ∧ Below w.heap.size w w' := fun v h1 h2 h3 => (@sym_ok _ (rGMay_no_k b1 b2) _ (@KnowOk.of _ (rGMay_no_k b1 b2) _ hops hcalls) (by kernel_rfl) _ _ _ _ h1 rfl h2 _ hG).mono fun e w' h => ⟨h.1.trans h3, h.2⟩
  clear hops hcalls
  cases b1 with
  | true =>
    have h1 : g.re.Ok := i1.1 rfl
    exact fin _ (rGMay_no_r1 b2) rfl (show Ending.returned (.bool b2) = .returned (.bool false) from congrArg (fun c => Ending.returned (Value.bool c)) (Bool.eq_false_iff.2 (fun hb => hn ⟨h1, i2.1 hb⟩)))
  | false =>
    have h1 : ¬ (g.re.Ok) := fun c => Bool.false_ne_true (i1.2 c)
    exact fin _ (rGMay_no_r2 b2) rfl rfl
end Go.Proofs.YtamcnnocjelcjaaGreatDoor
namespace Go.Proofs.YtamcnnocjelcjaaGreatDoor
open Go Go.RowKit
set_option maxRecDepth 100000 in
theorem awake24_says : saysG Tryz.prog glT 5000 8 [] true = true := by kernel_rfl
theorem awake24_c (w : World) (hg : Globs glT w) : Calls Tryz.prog 8 #[] w fun e w' => e = .returned (.bool true) ∧ Below w.heap.size w w' := closed_with (by kernel_rfl) awake24_says hg
end Go.Proofs.YtamcnnocjelcjaaGreatDoor
namespace Go.Proofs.YtamcnnocjelcjaaGreatDoor
open Go Go.RowKit Nt
set_option linter.unusedSectionVars false
@[irreducible] def hz (z x : Int) : Dy := mkD (decide (z < 0)) z.natAbs x
theorem hz_Ok (z x : Int) : (hz z x).Ok := by unfold hz; exact mkD_Ok _ _ _
theorem mkOk_z {z x : Int} (hz : -10000000 ≤ z ∧ z ≤ 10000000) (h1 : -90000 ≤ x) (h2 : x ≤ 90000) : mkOk3 z.natAbs x := by
  by_cases h0 : z.natAbs = 0
  · rw [h0]; exact Or.inl rfl
  · have h3 := odN_le z.natAbs
    have h6 : lowN z.natAbs ≤ 64 := by
      have h7 := (odN_spec h0).2
      have h8 := odN_pos h0
      rcases Nat.lt_or_ge (lowN z.natAbs) 65 with h | h
      · omega
      · have h9 : 2 ^ 65 ≤ 2 ^ lowN z.natAbs := Nat.pow_le_pow_right (by decide) h
        have h10 : 1 * 2 ^ lowN z.natAbs ≤ odN z.natAbs * 2 ^ lowN z.natAbs := Nat.mul_le_mul_right _ (Nat.pos_of_ne_zero h8)
        omega
    have h5 : nd 256 (odN z.natAbs) ≤ 16384 := Nat.le_trans (nd_le (k := 8) (by omega) (by have : (256 : Nat) ^ 8 = 18446744073709551616 := by decide
                                                                                           omega)) (by decide)
    exact Or.inr ⟨h5, by omega, by omega⟩
theorem iv_hz {z x : Int} (h : -10000000 ≤ z ∧ z ≤ 10000000) (h1 : -90000 ≤ x) (h2 : x ≤ 90000) : iv (hz z x) = z * ((2 ^ (x + (EE : Int)).toNat : Nat) : Int) := by
  have k := mk_toZ (decide (z < 0)) z.natAbs x EE (by have := EE_eq; omega)
  have e : mkZE (sgnd (decide (z < 0)) (z.natAbs * 2 ^ (x + (EE : Int)).toNat)) EE = 0 := k.2.symm.trans (mkE_ok (mkOk_z h h1 h2))
  unfold hz
  rw [k.1, mk_iv e]
  unfold sgnd
  by_cases hn : z < 0
  · rw [decide_eq_true hn, if_pos rfl, Int.natCast_mul, show ((z.natAbs : Nat) : Int) = -z by omega, Int.neg_mul, Int.neg_neg]
  · rw [decide_eq_false hn, if_neg (by simp), Int.natCast_mul, show ((z.natAbs : Nat) : Int) = z by omega]
theorem hz_c (z x : Int) (h : -10000000 ≤ z ∧ z ≤ 10000000) (hx : -9000 ≤ x ∧ x ≤ 9000) (w : World) : Calls Tryz.prog 67 #[.int .i64 z, .int .i64 x] w fun e' w' => e' = .returned (.tuple #[(hz z x).v, .int .i64 0]) ∧ Below w.heap.size w w' := by
  have k := DOf_c z x w (by omega) (by omega)
  unfold MkPost at k
  rw [mkE_ok (mkOk_z h (by omega) (by omega))] at k
  unfold hz
  exact k
section
variable [Env]
end
section
variable [Env]
end
set_option maxRecDepth 100000 in
theorem self_7 {g0 : Bool} {s1 : ByteArray} {x2 : Int} {g3 : Bool} {s4 : ByteArray} {x5 x6 : Int} (p q : Operand) (w : World) : (do eqGuard .neq 30 p q (.agg #[.bool g0, .string s1, .int .i64 x2, .bool g3, .string s4, .int .i64 x5, .int .i64 x6]) (.agg #[.bool g0, .string s1, .int .i64 x2, .bool g3, .string s4, .int .i64 x5, .int .i64 x6]); binOp .neq 30 (.agg #[.bool g0, .string s1, .int .i64 x2, .bool g3, .string s4, .int .i64 x5, .int .i64 x6]) (.agg #[.bool g0, .string s1, .int .i64 x2, .bool g3, .string s4, .int .i64 x5, .int .i64 x6])).run Tryz.prog w = .ok (.bool false) w := by
  go_simp
section
variable [Env]
end
@[reducible] def halves_z_f : FuncId := 39
@[reducible] def halves_z_a : List AV := [.sym 0, .sym 1]
@[reducible] noncomputable def halves_z_k : Know := ⟨[([0, 1, 3], [.sym 1, .lit (.int .i64 1)], .sym 2)],
  [(67, [.sym 0, .sym 2], .tup [.agg [.sym 3, .sym 4, .sym 5], .lit (.int .i64 0)])]⟩
theorem halves_z_r1 : @comes halves_z_k Tryz.prog glT 3000 halves_z_f halves_z_a = some (.agg [.sym 3, .sym 4, .sym 5]) := by kernel_rfl
set_option maxRecDepth 100000 in
set_option maxHeartbeats 4000000 in
theorem halves_z (z y : Int) (w : World) (hzb : -1000000 ≤ z ∧ z ≤ 1000000) (hy : -8000 ≤ y ∧ y ≤ 8000) (hG : Globs glT w) : Calls Tryz.prog 39 #[.int .i64 z, .int .i64 y] w fun e w' => e = .returned ((hz z (y - 1)).v) ∧ Below w.heap.size w w' := by
  letI : Env := mkEnv glT [.int .i64 z, .int .i64 y, .int .i64 (y - 1), .bool (hz z (y - 1)).g, .string (natS (hz z (y - 1)).n), .int .i64 (hz z (y - 1)).x] rfl
  have hops : OpsT Tryz.prog (@Know.ops halves_z_k) := ⟨vopt_sub rfl rfl rfl rfl (by omega) ⟨by omega, by omega⟩,
    trivial⟩
  have hcalls : CallsT Tryz.prog (@Know.calls halves_z_k) := ⟨callt rfl rfl fun w hG => hz_c z (y - 1) ⟨by omega, by omega⟩ ⟨by omega, by omega⟩ w,
    trivial⟩
  have fin : ∀ v, @comes halves_z_k Tryz.prog glT 3000 halves_z_f halves_z_a = some v → ground v = true → Ending.returned (gval v) = .returned ((hz z (y - 1)).v) → Calls Tryz.prog 39 #[.int .i64 z, .int .i64 y] w fun e w' => e = .returned ((hz z (y - 1)).v) ∧ Below w.heap.size w w' := fun v h1 h2 h3 => (@sym_ok _ halves_z_k _ (@KnowOk.of _ halves_z_k _ hops hcalls) (by kernel_rfl) _ _ _ _ h1 rfl h2 _ hG).mono fun e w' h => ⟨h.1.trans h3, h.2⟩
  clear hops hcalls
  exact fin _ (halves_z_r1) rfl rfl
end Go.Proofs.YtamcnnocjelcjaaGreatDoor
namespace Go.Proofs.YtamcnnocjelcjaaGreatDoor
open Go Go.RowKit Nt
def B6 (w : World) (B : Nat) (a : Gt) : Prop := Blk w B 26 #[.bool a.re.g, .string a.re.s, .int .i64 a.re.x, .bool a.im.g, .string a.im.s, .int .i64 a.im.x]
theorem B6.facts {w : World} {B : Nat} {a : Gt} (h : B6 w B a) : B < w.heap.size ∧ w.cell? ⟨B, 0, none⟩ = some (.bool a.re.g) ∧ w.cell? ⟨B, 1, none⟩ = some (.string a.re.s) ∧ w.cell? ⟨B, 2, none⟩ = some (.int .i64 a.re.x) ∧ w.cell? ⟨B, 3, none⟩ = some (.bool a.im.g) ∧ w.cell? ⟨B, 4, none⟩ = some (.string a.im.s) ∧ w.cell? ⟨B, 5, none⟩ = some (.int .i64 a.im.x) ∧ w.frozen? ⟨B, 0, none⟩ = false ∧ w.frozen? ⟨B, 1, none⟩ = false ∧ w.frozen? ⟨B, 2, none⟩ = false ∧ w.frozen? ⟨B, 3, none⟩ = false ∧ w.frozen? ⟨B, 4, none⟩ = false ∧ w.frozen? ⟨B, 5, none⟩ = false :=
  ⟨Blk.lt h, (Blk.cell h 0).trans rfl, (Blk.cell h 1).trans rfl, (Blk.cell h 2).trans rfl, (Blk.cell h 3).trans rfl, (Blk.cell h 4).trans rfl, (Blk.cell h 5).trans rfl, Blk.frozen h 0, Blk.frozen h 1, Blk.frozen h 2, Blk.frozen h 3, Blk.frozen h 4, Blk.frozen h 5⟩
def GB (w : World) (a : Gt) (W : World) : Prop := Below w.heap.size w W ∧ B6 W w.heap.size a
theorem GB.start (w : World) (a : Gt) : GB w a (w.alloc (.cells #[.bool a.re.g, .string a.re.s, .int .i64 a.re.x, .bool a.im.g, .string a.im.s, .int .i64 a.im.x] 26)) := ⟨(Below.refl _ _).alloc (Nat.le_refl _) _, Blk.new w _ _⟩
theorem GB.step {w : World} {a : Gt} {W W' : World} (h : GB w a W) (hb : Below W.heap.size W W') : GB w a W' := ⟨below_then h.1 hb, Blk.below h.2 hb (Blk.lt h.2)⟩
theorem GB.more {w : World} {a : Gt} {W : World} (h : GB w a W) (o : Obj) : GB w a (W.alloc o) := h.step ((Below.refl _ _).alloc (Nat.le_refl _) _)
theorem rMayT_c (a : Dt) (w : World) (hs : a.s.size ≤ 9223372036854775807) (m : Bool) (hm : m = true ↔ a.Ok) : Calls Tryz.prog 28 #[.agg #[.bool a.g, .string a.s, .int .i64 a.x]] w fun e w' => e = .returned (.bool m) ∧ Below w.heap.size w w' := by
  cases m with
  | true =>
    obtain ⟨d, hd, e⟩ := Dt.dy (hm.1 rfl)
    have e1 : a.g = d.g := congrArg Dt.g e
    have e2 : a.s = natS d.n := congrArg Dt.s e
    have e3 : a.x = d.x := congrArg Dt.x e
    rw [e1, e2, e3]; exact rMayT_ok d w hd
  | false => exact rMay3_bad _ _ _ w hs (fun c => Bool.false_ne_true (hm.2 c))
set_option maxRecDepth 100000 in
set_option maxHeartbeats 4000000 in
theorem rMay6_c (a : Gt) (w : World) (hs : a.Small) (m k : Bool) (hm : m = true ↔ a.re.Ok) (hk : k = true ↔ a.im.Ok) : Calls Tryz.prog 10 #[.agg #[.bool a.re.g, .string a.re.s, .int .i64 a.re.x, .bool a.im.g, .string a.im.s, .int .i64 a.im.x]] w fun e w' => e = .returned (.bool (m && k)) ∧ Below w.heap.size w w' := by
  have K1 := Lib.hid (fun w => rMayT_c a.re w hs.1 m hm)
  have K2 := Lib.hid (fun w => rMayT_c a.im w hs.2 k hk)
  have T0 := GB.start w a
  obtain ⟨r0, r1, r2, r3, r4, r5, r6, r7, r8, r9, r10, r11, r12⟩ := T0.2.facts
  clear hm hk hs
  cases m
  · go_enter Tryz.func10, Tryz.ntmps10
    go_wp2_with (first | (go_at_call 28; (with_reducible refine (K1.out _).mono ?_); rintro ee w1 ⟨rfl, hb⟩; replace T0 := T0.step hb; clear hb r0 r1 r2 r3 r4 r5 r6 r7 r8 r9 r10 r11 r12; obtain ⟨r0, r1, r2, r3, r4, r5, r6, r7, r8, r9, r10, r11, r12⟩ := T0.2.facts))
    go_ret
    exact ⟨rfl, T0.1⟩
  · go_enter Tryz.func10, Tryz.ntmps10
    go_wp2_with (first | (go_at_call 28; (with_reducible refine (K1.out _).mono ?_); rintro ee w1 ⟨rfl, hb⟩; replace T0 := T0.step hb; clear hb r0 r1 r2 r3 r4 r5 r6 r7 r8 r9 r10 r11 r12; obtain ⟨r0, r1, r2, r3, r4, r5, r6, r7, r8, r9, r10, r11, r12⟩ := T0.2.facts) | (go_at_call 28; (with_reducible refine (K2.out _).mono ?_); rintro ee w1 ⟨rfl, hb⟩; replace T0 := T0.step hb; clear hb r0 r1 r2 r3 r4 r5 r6 r7 r8 r9 r10 r11 r12; obtain ⟨r0, r1, r2, r3, r4, r5, r6, r7, r8, r9, r10, r11, r12⟩ := T0.2.facts))
    go_ret
    exact ⟨rfl, T0.1⟩
end Go.Proofs.YtamcnnocjelcjaaGreatDoor
namespace Go.Proofs.YtamcnnocjelcjaaGreatDoor
open Go Go.RowKit Nt
def Upto (X T : Int) (n i : Nat) : Prop := X ≤ (2 * (i : Int) + 2 - (n : Int)) * T
def IsSlot (X T : Int) (n c : Nat) : Prop := c < n ∧ Upto X T n c ∧ ∀ j, j < c → ¬ Upto X T n j
theorem upto_mono {X T : Int} {n i j : Nat} (hT : 0 < T) (h : i ≤ j) (hi : Upto X T n i) : Upto X T n j := by
  unfold Upto at hi ⊢
  have h1 : (2 * (i : Int) + 2 - (n : Int)) ≤ (2 * (j : Int) + 2 - (n : Int)) := by omega
  exact Int.le_trans hi (Int.mul_le_mul_of_nonneg_right h1 (Int.le_of_lt hT))
theorem slot_least {X T : Int} {n : Nat} : ∀ m, m < n → Upto X T n m → ∃ c, IsSlot X T n c := by
  intro m
  induction m using Nat.strongRecOn with
  | _ m ih =>
    intro hm hu
    by_cases h : ∃ j, j < m ∧ Upto X T n j
    · obtain ⟨j, hj, hju⟩ := h
      exact ih j hj (by omega) hju
    · exact ⟨m, hm, hu, fun j hj hju => h ⟨j, hj, hju⟩⟩
theorem slot_ex {X T : Int} {n : Nat} (hn : 0 < n) (h : X ≤ (n : Int) * T) : ∃ c, IsSlot X T n c := by
  refine slot_least (n - 1) (by omega) ?_
  unfold Upto
  have e : (2 * ((n - 1 : Nat) : Int) + 2 - (n : Int)) = (n : Int) := by omega
  rw [e]; exact h
@[irreducible] def hT (x : Int) : Int := ((2 ^ (x - 1 + (EE : Int)).toNat : Nat) : Int)
theorem hT_pos (x : Int) : 0 < hT x := by
  unfold hT
  have := Nat.two_pow_pos (x - 1 + (EE : Int)).toNat
  omega
theorem iv_half {z x : Int} (h : -10000000 ≤ z ∧ z ≤ 10000000) (hx : -4096 ≤ x ∧ x ≤ 4096) : iv (hz z (x - 1)) = z * hT x := by
  rw [iv_hz h (by omega) (by omega)]
  unfold hT; rfl
theorem cmpV_le {a b : Dy} (ha : a.Ok) (hb : b.Ok) : cmpD a b ≤ 0 ↔ iv a ≤ iv b := by
  rw [cmp_iv ha hb]
  unfold sgI
  split <;> (try split) <;> omega
theorem cmpV_lt {a b : Dy} (ha : a.Ok) (hb : b.Ok) : cmpD a b < 0 ↔ iv a < iv b := by
  rw [cmp_iv ha hb]
  unfold sgI
  split <;> (try split) <;> omega
end Go.Proofs.YtamcnnocjelcjaaGreatDoor
namespace Go.Proofs.YtamcnnocjelcjaaGreatDoor
open Go Go.RowKit Nt
def StV (w W : World) : Prop := Below w.heap.size w W
theorem StV.step {w W W' : World} (h : StV w W) (hb : Below W.heap.size W W') : StV w W' := below_chain h hb
theorem StV.drew {w W : World} (h : StV w W) : StV w W.drew := Below.drew h
theorem StV.drawn {w W : World} (h : StV w W) (n : Nat) : StV w (W.drewN n) := below_drewN h n
set_option maxRecDepth 100000 in
theorem within_c (n l h : Int) (b : Bool) (hb : b = true ↔ l ≤ n ∧ n ≤ h) (w : World) : Calls Tryz.prog 16 #[.int .i64 n, .int .i64 l, .int .i64 h] w fun e w' => e = .returned (.bool b) ∧ w = w' := by
  by_cases h1 : l ≤ n
  · have e : b = decide (n ≤ h) := by
      rw [Bool.eq_iff_iff, hb, decide_eq_true_iff]
      exact ⟨fun c => c.2, fun c => ⟨h1, c⟩⟩
    subst e
    clear hb
    go_enter Tryz.func16, Tryz.ntmps16
    go_wp2_with fail
    go_ret
    exact ⟨rfl, rfl⟩
  · have e : b = false := Bool.eq_false_iff.2 (fun c => h1 (hb.1 c).1)
    subst e
    have h2 : decide (l ≤ n) = false := decide_eq_false h1
    clear hb
    go_enter Tryz.func16, Tryz.ntmps16
    go_wp2_with fail
    go_ret
    exact ⟨rfl, rfl⟩
set_option maxRecDepth 100000 in
set_option maxHeartbeats 2000000 in
theorem halves_c (n e : Int) (hn : -10000000 ≤ n ∧ n ≤ 10000000) (he : -8000 ≤ e ∧ e ≤ 8000) (w : World) : Calls Tryz.prog 39 #[.int .i64 n, .int .i64 e] w fun r w' => r = .returned (hz n (e - 1)).v ∧ Below w.heap.size w w' := by
  have K := Lib.hid (fun w => hz_c n (e - 1) hn (by omega) w)
  have hw : IntKind.i64.wrap (e - 1) = e - 1 := IntWalk.i64_in _ (by omega)
  generalize hz n (e - 1) = D at *
  unfold Dy.v at *
  have T0 := OB.start w ⟨false, ⟨#[]⟩, 0⟩
  go_enter Tryz.func39, Tryz.ntmps39
  go_wp2_with (first | (go_at_call 67; (with_reducible refine (K.out _).mono ?_); rintro ee w1 ⟨rfl, hb⟩; replace T0 := T0.step hb; clear hb; obtain ⟨r0, r1, r2, r3, r4, r5, r6⟩ := T0.2.facts))
  have T1 := T0.more (.cells #[.bool D.g, .string (natS D.n), .int .i64 D.x] 24)
  obtain ⟨y0, y1, y2, y3, y4, y5, y6⟩ := T1.2.facts
  refine bodyPost_ret (v := .agg #[.bool D.g, .string (natS D.n), .int .i64 D.x]) (by simp [results, Tryz.results39, go_sem, r0, r1, r2, r3, y0, y1, y2, y3]) rfl ⟨rfl, ?_⟩
  exact Below.alloc (below_put T0.1 (Nat.le_refl _) _ _ _) (by simpa using T0.1.size) _
set_option maxRecDepth 100000 in
set_option maxHeartbeats 2000000 in
theorem upTo_c (x : Dy) (k e : Int) (Bx Be : Nat) (w : World) (hx : x.Ok) (hk : -10000000 ≤ k ∧ k ≤ 10000000) (he : -8000 ≤ e ∧ e ≤ 8000) (hBx : Bx < w.heap.size) (hBe : Be < w.heap.size)
    (c0 : w.cell? ⟨Bx, 0, none⟩ = some (.bool x.g)) (c1 : w.cell? ⟨Bx, 1, none⟩ = some (.string (natS x.n))) (c2 : w.cell? ⟨Bx, 2, none⟩ = some (.int .i64 x.x)) (ce : w.cell? ⟨Be, 0, none⟩ = some (.int .i64 e)) :
    Calls Tryz.prog 44 #[.int .i64 k, .pointer (some ⟨Bx, 0, none⟩), .pointer (some ⟨Be, 0, none⟩)] w fun r w' => r = .returned (.bool (decide (cmpD x (hz k (e - 1)) ≤ 0))) ∧ Below w.heap.size w w' := by
  have K := Lib.hid (fun w => halves_c k e hk he w)
  have KC := Lib.hid (fun w => DCmp_c x (hz k (e - 1)) w hx (hz_Ok _ _))
  generalize cmpD x (hz k (e - 1)) = C at *
  generalize hz k (e - 1) = D at *
  unfold Dy.v at *
  have S0 : StV w w := Below.refl _ _
  have L0 := fun U (s : StV w U) => (Below.cell s (p := ⟨Bx, 0, none⟩) hBx).trans c0
  have L1 := fun U (s : StV w U) => (Below.cell s (p := ⟨Bx, 1, none⟩) hBx).trans c1
  have L2 := fun U (s : StV w U) => (Below.cell s (p := ⟨Bx, 2, none⟩) hBx).trans c2
  have L3 := fun U (s : StV w U) => (Below.cell s (p := ⟨Be, 0, none⟩) hBe).trans ce
  clear c0 c1 c2 ce
  go_enter Tryz.func44, Tryz.ntmps44
  go_wp2_with fail
  go_region_held3 (StV w) (first | assumption | exact StV.step (by assumption) (by assumption) | exact StV.drew (by assumption) | exact StV.drawn (by assumption) _)
    (first
      | (go_at_call 39; refine (K.out _).mono ?_; rintro e w1 ⟨rfl, hb1⟩)
      | (go_at_call 14; refine (KC.out _).mono ?_; rintro e w2 ⟨rfl, hb2⟩))
  rename_i hHeld
  clear L0 L1 L2 L3 hb1 hb2 S0
  have hfin : Below w.heap.size w w2 := hHeld
  clear hHeld
  go_wp2_with fail
  go_ret
  exact ⟨rfl, hfin⟩
end Go.Proofs.YtamcnnocjelcjaaGreatDoor
namespace Go.Proofs.YtamcnnocjelcjaaGreatDoor
open Go Go.RowKit Nt
structure WinT where
  c : Gt
  e : Int
  a : Int
  d : Int
def WinT.Ok (t : WinT) : Prop := t.c.Ok ∧ (-4096 ≤ t.e ∧ t.e ≤ 4096) ∧ (1 ≤ t.a ∧ t.a ≤ 65536) ∧ (1 ≤ t.d ∧ t.d ≤ 65536)
def Bx9 (w : World) (B : Nat) (t : WinT) : Prop := Blk w B 28 #[.bool t.c.re.g, .string t.c.re.s, .int .i64 t.c.re.x, .bool t.c.im.g, .string t.c.im.s, .int .i64 t.c.im.x, .int .i64 t.e, .int .i64 t.a, .int .i64 t.d]
theorem Bx9.facts {w : World} {B : Nat} {t : WinT} (h : Bx9 w B t) : B < w.heap.size ∧ w.cell? ⟨B, 0, none⟩ = some (.bool t.c.re.g) ∧ w.cell? ⟨B, 1, none⟩ = some (.string t.c.re.s) ∧ w.cell? ⟨B, 2, none⟩ = some (.int .i64 t.c.re.x) ∧ w.cell? ⟨B, 3, none⟩ = some (.bool t.c.im.g) ∧ w.cell? ⟨B, 4, none⟩ = some (.string t.c.im.s) ∧ w.cell? ⟨B, 5, none⟩ = some (.int .i64 t.c.im.x) ∧ w.cell? ⟨B, 6, none⟩ = some (.int .i64 t.e) ∧ w.cell? ⟨B, 7, none⟩ = some (.int .i64 t.a) ∧ w.cell? ⟨B, 8, none⟩ = some (.int .i64 t.d) :=
  ⟨Blk.lt h, (Blk.cell h 0).trans rfl, (Blk.cell h 1).trans rfl, (Blk.cell h 2).trans rfl, (Blk.cell h 3).trans rfl, (Blk.cell h 4).trans rfl, (Blk.cell h 5).trans rfl, (Blk.cell h 6).trans rfl, (Blk.cell h 7).trans rfl, (Blk.cell h 8).trans rfl⟩
def WinB (w : World) (t : WinT) (W : World) : Prop := Below w.heap.size w W ∧ Bx9 W w.heap.size t
theorem WinB.start (w : World) (t : WinT) : WinB w t (w.alloc (.cells #[.bool t.c.re.g, .string t.c.re.s, .int .i64 t.c.re.x, .bool t.c.im.g, .string t.c.im.s, .int .i64 t.c.im.x, .int .i64 t.e, .int .i64 t.a, .int .i64 t.d] 28)) := ⟨(Below.refl _ _).alloc (Nat.le_refl _) _, Blk.new w _ _⟩
theorem WinB.step {w : World} {t : WinT} {W W' : World} (h : WinB w t W) (hb : Below W.heap.size W W') : WinB w t W' := ⟨below_then h.1 hb, Blk.below h.2 hb (Blk.lt h.2)⟩
theorem WinB.more {w : World} {t : WinT} {W : World} (h : WinB w t W) (o : Obj) : WinB w t (W.alloc o) := h.step ((Below.refl _ _).alloc (Nat.le_refl _) _)
open Classical in
@[irreducible] noncomputable def wE (t : WinT) : Int := if t.Ok then 0 else 240
theorem wE_ok {t : WinT} (h : t.Ok) : wE t = 0 := by unfold wE; rw [if_pos h]
theorem wE_no {t : WinT} (h : ¬ t.Ok) : wE t = 240 := by unfold wE; rw [if_neg h]
set_option maxRecDepth 100000 in
set_option maxHeartbeats 4000000 in
theorem VCheck_w (t : WinT) (ge r : Int) (b1 b2 b3 : Bool) (w : World) (hG : Globs glT w)
    (KC : ∀ w, Globs glT w → Calls Tryz.prog 19 #[.agg #[.bool t.c.re.g, .string t.c.re.s, .int .i64 t.c.re.x, .bool t.c.im.g, .string t.c.im.s, .int .i64 t.c.im.x]] w fun e w' => e = .returned (.int .i64 ge) ∧ Below w.heap.size w w')
    (h1 : b1 = true ↔ -4096 ≤ t.e ∧ t.e ≤ 4096) (h2 : b2 = true ↔ 1 ≤ t.a ∧ t.a ≤ 65536) (h3 : b3 = true ↔ 1 ≤ t.d ∧ t.d ≤ 65536)
    (h : (¬ ge = 0 ∧ r = 240) ∨ (ge = 0 ∧ b1 = false ∧ r = 240) ∨ (ge = 0 ∧ b1 = true ∧ b2 = false ∧ r = 240) ∨ (ge = 0 ∧ b1 = true ∧ b2 = true ∧ b3 = false ∧ r = 240) ∨ (ge = 0 ∧ b1 = true ∧ b2 = true ∧ b3 = true ∧ r = 0)) :
    Calls Tryz.prog 15 #[.agg #[.bool t.c.re.g, .string t.c.re.s, .int .i64 t.c.re.x, .bool t.c.im.g, .string t.c.im.s, .int .i64 t.c.im.x, .int .i64 t.e, .int .i64 t.a, .int .i64 t.d]] w fun e w' => e = .returned (.int .i64 r) ∧ Below w.heap.size w w' := by
  have K1 := Lib.hid KC
  have K2 := Lib.hid (fun w => within_c t.e (-4096) 4096 b1 h1 w)
  have K3 := Lib.hid (fun w => within_c t.a 1 65536 b2 h2 w)
  have K4 := Lib.hid (fun w => within_c t.d 1 65536 b3 h3 w)
  have HG := Lib.hid hG
  have T0 := WinB.start w t
  clear KC h1 h2 h3 hG
  obtain ⟨r0, r1, r2, r3, r4, r5, r6, r7, r8, r9⟩ := T0.2.facts
  rcases h with ⟨c, rfl⟩ | ⟨rfl, rfl, rfl⟩ | ⟨rfl, rfl, rfl, rfl⟩ | ⟨rfl, rfl, rfl, rfl, rfl⟩ | ⟨rfl, rfl, rfl, rfl, rfl⟩
  case' inl =>
    have q1 : (ge == 0) = false := beq_eq_false_iff_ne.2 c
    have q2 : (ge != 0) = true := by rw [bne, q1]; rfl
  all_goals
    go_enter Tryz.func15, Tryz.ntmps15
    go_wp2_with (first | (go_at_call 19; have HK := K1.out _ (HG.out.below T0.1 (Nat.le_refl _)); (with_reducible refine HK.mono ?_); clear HK; rintro ee w1 ⟨rfl, hb⟩; replace T0 := T0.step hb; clear hb r0 r1 r2 r3 r4 r5 r6 r7 r8 r9; obtain ⟨r0, r1, r2, r3, r4, r5, r6, r7, r8, r9⟩ := T0.2.facts) | (go_at_call 16; (with_reducible refine (K2.out _).mono ?_); rintro ee w1 ⟨rfl, rfl⟩) | (go_at_call 16; (with_reducible refine (K3.out _).mono ?_); rintro ee w1 ⟨rfl, rfl⟩) | (go_at_call 16; (with_reducible refine (K4.out _).mono ?_); rintro ee w1 ⟨rfl, rfl⟩))
    go_ret
    exact ⟨rfl, T0.1⟩
open Classical in
theorem VCheck_c (t : WinT) (w : World) (hs : t.c.Small) (hG : Globs glT w) : Calls Tryz.prog 15 #[.agg #[.bool t.c.re.g, .string t.c.re.s, .int .i64 t.c.re.x, .bool t.c.im.g, .string t.c.im.s, .int .i64 t.c.im.x, .int .i64 t.e, .int .i64 t.a, .int .i64 t.d]] w fun e w' => e = .returned (.int .i64 (wE t)) ∧ Below w.heap.size w w' := by
  obtain ⟨b1, h1⟩ : ∃ b : Bool, b = true ↔ -4096 ≤ t.e ∧ t.e ≤ 4096 := ⟨decide _, decide_eq_true_iff⟩
  obtain ⟨b2, h2⟩ : ∃ b : Bool, b = true ↔ 1 ≤ t.a ∧ t.a ≤ 65536 := ⟨decide _, decide_eq_true_iff⟩
  obtain ⟨b3, h3⟩ : ∃ b : Bool, b = true ↔ 1 ≤ t.d ∧ t.d ≤ 65536 := ⟨decide _, decide_eq_true_iff⟩
  refine VCheck_w t (gE t.c) (wE t) b1 b2 b3 w hG (fun w hG => GCheck_c t.c w hs.1 hs.2 hG) h1 h2 h3 ?_
  by_cases hc : t.c.Ok
  · rw [gE_ok hc]
    cases b1 with
    | false => exact Or.inr (Or.inl ⟨rfl, rfl, wE_no (fun c => Bool.false_ne_true (h1.2 c.2.1))⟩)
    | true => cases b2 with
      | false => exact Or.inr (Or.inr (Or.inl ⟨rfl, rfl, rfl, wE_no (fun c => Bool.false_ne_true (h2.2 c.2.2.1))⟩))
      | true => cases b3 with
        | false => exact Or.inr (Or.inr (Or.inr (Or.inl ⟨rfl, rfl, rfl, rfl, wE_no (fun c => Bool.false_ne_true (h3.2 c.2.2.2))⟩)))
        | true => exact Or.inr (Or.inr (Or.inr (Or.inr ⟨rfl, rfl, rfl, rfl, wE_ok ⟨hc, h1.1 rfl, h2.1 rfl, h3.1 rfl⟩⟩)))
  · rw [gE_no hc]
    exact Or.inl ⟨by decide, wE_no (fun c => hc c.1)⟩
set_option maxRecDepth 100000 in
set_option maxHeartbeats 4000000 in
theorem side_c (n : Int) (b : Bool) (hb : b = true ↔ -4096 ≤ n ∧ n ≤ 4096) (w : World) : Calls Tryz.prog 23 #[.int .i64 n] w fun e w' => e = .returned (.bool b) ∧ w = w' := by
  by_cases h1 : -4096 ≤ n
  · have e : b = decide (n ≤ 4096) := by
      rw [Bool.eq_iff_iff, hb, decide_eq_true_iff]
      exact ⟨fun c => c.2, fun c => ⟨h1, c⟩⟩
    subst e
    clear hb
    go_enter Tryz.func23, Tryz.ntmps23
    go_wp2_with fail
    go_ret
    exact ⟨rfl, rfl⟩
  · have e : b = false := Bool.eq_false_iff.2 (fun c => h1 (hb.1 c).1)
    subst e
    have h2 : decide (-4096 ≤ n) = false := decide_eq_false h1
    clear hb
    go_enter Tryz.func23, Tryz.ntmps23
    go_wp2_with fail
    go_ret
    exact ⟨rfl, rfl⟩
set_option maxRecDepth 100000 in
set_option maxHeartbeats 4000000 in
theorem rMay24_w (t : WinT) (m b1 r : Bool) (w : World)
    (KC : ∀ w, Calls Tryz.prog 10 #[.agg #[.bool t.c.re.g, .string t.c.re.s, .int .i64 t.c.re.x, .bool t.c.im.g, .string t.c.im.s, .int .i64 t.c.im.x]] w fun e w' => e = .returned (.bool m) ∧ Below w.heap.size w w')
    (h1 : b1 = true ↔ -4096 ≤ t.e ∧ t.e ≤ 4096)
    (h : (m = false ∧ r = false) ∨ (m = true ∧ b1 = false ∧ r = false) ∨ (m = true ∧ b1 = true ∧ t.a < 1 ∧ r = false) ∨ (m = true ∧ b1 = true ∧ 1 ≤ t.a ∧ 65536 < t.a ∧ r = false) ∨ (m = true ∧ b1 = true ∧ 1 ≤ t.a ∧ t.a ≤ 65536 ∧ t.d < 1 ∧ r = false) ∨ (m = true ∧ b1 = true ∧ 1 ≤ t.a ∧ t.a ≤ 65536 ∧ 1 ≤ t.d ∧ 65536 < t.d ∧ r = false) ∨ (m = true ∧ b1 = true ∧ 1 ≤ t.a ∧ t.a ≤ 65536 ∧ 1 ≤ t.d ∧ t.d ≤ 65536 ∧ r = true)) :
    Calls Tryz.prog 7 #[.agg #[.bool t.c.re.g, .string t.c.re.s, .int .i64 t.c.re.x, .bool t.c.im.g, .string t.c.im.s, .int .i64 t.c.im.x, .int .i64 t.e, .int .i64 t.a, .int .i64 t.d]] w fun e w' => e = .returned (.bool r) ∧ Below w.heap.size w w' := by
  have K1 := Lib.hid KC
  have K2 := Lib.hid (fun w => side_c t.e b1 h1 w)
  have T0 := WinB.start w t
  clear KC h1
  obtain ⟨r0, r1, r2, r3, r4, r5, r6, r7, r8, r9⟩ := T0.2.facts
  rcases h with ⟨rfl, rfl⟩ | ⟨rfl, rfl, rfl⟩ | ⟨rfl, rfl, q1, rfl⟩ | ⟨rfl, rfl, q1, q2, rfl⟩ | ⟨rfl, rfl, q1, q2, q3, rfl⟩ | ⟨rfl, rfl, q1, q2, q3, q4, rfl⟩ | ⟨rfl, rfl, q1, q2, q3, q4, rfl⟩
  case' inr.inr.inl => have p1 : decide (1 ≤ t.a) = false := decide_eq_false (by omega)
  case' inr.inr.inr.inl => have p2 : decide (t.a ≤ 65536) = false := decide_eq_false (by omega)
  case' inr.inr.inr.inr.inl => have p3 : decide (1 ≤ t.d) = false := decide_eq_false (by omega)
  case' inr.inr.inr.inr.inr.inl => have p4 : decide (t.d ≤ 65536) = false := decide_eq_false (by omega)
  all_goals
    go_enter Tryz.func7, Tryz.ntmps7
    go_wp2_with (first | (go_at_call 10; (with_reducible refine (K1.out _).mono ?_); rintro ee w1 ⟨rfl, hb⟩; replace T0 := T0.step hb; clear hb r0 r1 r2 r3 r4 r5 r6 r7 r8 r9; obtain ⟨r0, r1, r2, r3, r4, r5, r6, r7, r8, r9⟩ := T0.2.facts) | (go_at_call 23; (with_reducible refine (K2.out _).mono ?_); rintro ee w1 ⟨rfl, rfl⟩))
    go_ret
    first | exact ⟨rfl, T0.1⟩ | exact ⟨by simp [*], T0.1⟩
open Classical in
theorem rMay24_c (t : WinT) (w : World) (hs : t.c.Small) (r : Bool) (hr : r = true ↔ t.Ok) : Calls Tryz.prog 7 #[.agg #[.bool t.c.re.g, .string t.c.re.s, .int .i64 t.c.re.x, .bool t.c.im.g, .string t.c.im.s, .int .i64 t.c.im.x, .int .i64 t.e, .int .i64 t.a, .int .i64 t.d]] w fun e w' => e = .returned (.bool r) ∧ Below w.heap.size w w' := by
  obtain ⟨m, hm⟩ : ∃ b : Bool, b = true ↔ t.c.re.Ok := ⟨decide _, decide_eq_true_iff⟩
  obtain ⟨n, hn⟩ : ∃ b : Bool, b = true ↔ t.c.im.Ok := ⟨decide _, decide_eq_true_iff⟩
  obtain ⟨b1, h1⟩ : ∃ b : Bool, b = true ↔ -4096 ≤ t.e ∧ t.e ≤ 4096 := ⟨decide _, decide_eq_true_iff⟩
  have no : ∀ h : ¬ t.Ok, r = false := fun h => Bool.eq_false_iff.2 (fun c => h (hr.1 c))
  refine rMay24_w t (m && n) b1 r w (fun w => rMay6_c t.c w hs m n hm hn) h1 ?_
  by_cases hc : t.c.Ok
  · have e : (m && n) = true := by rw [hm.2 hc.1, hn.2 hc.2]; rfl
    cases b1 with
    | false => exact Or.inr (Or.inl ⟨e, rfl, no (fun c => Bool.false_ne_true (h1.2 c.2.1))⟩)
    | true =>
      by_cases q1 : 1 ≤ t.a
      · by_cases q2 : t.a ≤ 65536
        · by_cases q3 : 1 ≤ t.d
          · by_cases q4 : t.d ≤ 65536
            · exact Or.inr (Or.inr (Or.inr (Or.inr (Or.inr (Or.inr ⟨e, rfl, q1, q2, q3, q4, hr.2 ⟨hc, h1.1 rfl, ⟨q1, q2⟩, q3, q4⟩⟩)))))
            · exact Or.inr (Or.inr (Or.inr (Or.inr (Or.inr (Or.inl ⟨e, rfl, q1, q2, q3, by omega, no (fun c => q4 c.2.2.2.2)⟩)))))
          · exact Or.inr (Or.inr (Or.inr (Or.inr (Or.inl ⟨e, rfl, q1, q2, by omega, no (fun c => q3 c.2.2.2.1)⟩))))
        · exact Or.inr (Or.inr (Or.inr (Or.inl ⟨e, rfl, q1, by omega, no (fun c => q2 c.2.2.1.2)⟩)))
      · exact Or.inr (Or.inr (Or.inl ⟨e, rfl, by omega, no (fun c => q1 c.2.2.1.1)⟩))
  · have e : (m && n) = false := by
      cases m with
      | false => rfl
      | true => cases n with
        | false => rfl
        | true => exact absurd ⟨hm.1 rfl, hn.1 rfl⟩ hc
    exact Or.inl ⟨e, no (fun c => hc c.1)⟩
end Go.Proofs.YtamcnnocjelcjaaGreatDoor
namespace Go.Proofs.YtamcnnocjelcjaaGreatDoor
open Go Go.RowKit Nt
theorem rhz_c (z x : Int) (h : -10000000 ≤ z ∧ z ≤ 10000000) (hx : -9000 ≤ x ∧ x ≤ 9000) (w : World) : Calls Tryz.prog 52 #[.int .i64 z, .int .i64 x] w fun e' w' => e' = .returned (.tuple #[(hz z x).v, .int .i64 0]) ∧ Below w.heap.size w w' := by
  have k := rOfD3_c z x w (by omega) (by omega)
  unfold MkPost at k
  rw [mkE_ok (mkOk_z h (by omega) (by omega))] at k
  unfold hz
  exact k
theorem rMay24_ok (p q : Dy) (y a b : Int) (w : World) (hp : p.Ok) (hq : q.Ok) (hy : -4096 ≤ y ∧ y ≤ 4096) (ha : 1 ≤ a ∧ a ≤ 65536) (hb : 1 ≤ b ∧ b ≤ 65536) : Calls Tryz.prog 7 #[.agg #[.bool p.g, .string (natS p.n), .int .i64 p.x, .bool q.g, .string (natS q.n), .int .i64 q.x, .int .i64 y, .int .i64 a, .int .i64 b]] w fun e w' => e = .returned (.bool true) ∧ Below w.heap.size w w' := by
  have h1 := Dt.small (Dy.ok_t hp)
  have h2 := Dt.small (Dy.ok_t hq)
  exact rMay24_c (⟨⟨p.t, q.t⟩, y, a, b⟩ : WinT) w ⟨Nat.le_trans h1 (by decide), Nat.le_trans h2 (by decide)⟩ true ⟨fun _ => ⟨⟨Dy.ok_t hp, Dy.ok_t hq⟩, hy, ha, hb⟩, fun _ => rfl⟩
theorem rMay6_ok (g : Gs) (w : World) (hg : g.Ok) : Calls Tryz.prog 10 #[.agg #[.bool g.re.g, .string (natS g.re.n), .int .i64 g.re.x, .bool g.im.g, .string (natS g.im.n), .int .i64 g.im.x]] w fun e w' => e = .returned (.bool true) ∧ Below w.heap.size w w' := by
  have h1 := Dt.small (Dy.ok_t hg.1)
  have h2 := Dt.small (Dy.ok_t hg.2)
  exact rMay6_c g.t w ⟨Nat.le_trans h1 (by decide), Nat.le_trans h2 (by decide)⟩ true true ⟨fun _ => Dy.ok_t hg.1, fun _ => rfl⟩ ⟨fun _ => Dy.ok_t hg.2, fun _ => rfl⟩
@[reducible] def on_z_f : FuncId := 27
@[reducible] def on_z_a : List AV := [.agg [.sym 0, .sym 1, .sym 2], .sym 3, .sym 4]
@[reducible] noncomputable def on_z_k : Know := ⟨[],
  [(52, [.sym 3, .sym 4], .tup [.agg [.sym 5, .sym 6, .sym 7], .lit (.int .i64 0)]),
  (53, [.agg [.sym 0, .sym 1, .sym 2], .agg [.sym 5, .sym 6, .sym 7]], .tup [.agg [.sym 8, .sym 9, .sym 10], .sym 11])]⟩
theorem on_z_r1 : @comes on_z_k Tryz.prog glT 3000 on_z_f on_z_a = some (.tup [.agg [.sym 8, .sym 9, .sym 10], .sym 11]) := by kernel_rfl
set_option maxRecDepth 100000 in
set_option maxHeartbeats 4000000 in
theorem on_z (l : Dy) (z y : Int) (w : World) (hl : l.Ok) (hzb : -1000000 ≤ z ∧ z ≤ 1000000) (hy : -8000 ≤ y ∧ y ≤ 8000) (hG : Globs glT w) : Calls Tryz.prog 27 #[.agg #[.bool l.g, .string (natS l.n), .int .i64 l.x], .int .i64 z, .int .i64 y] w fun e w' => e = .returned (.tuple #[(addD l (hz z y)).v, .int .i64 (addE l (hz z y))]) ∧ Below w.heap.size w w' := by
  letI : Env := mkEnv glT [.bool l.g, .string (natS l.n), .int .i64 l.x, .int .i64 z, .int .i64 y, .bool (hz z y).g, .string (natS (hz z y).n), .int .i64 (hz z y).x, .bool (addD l (hz z y)).g, .string (natS (addD l (hz z y)).n), .int .i64 (addD l (hz z y)).x, .int .i64 (addE l (hz z y))] rfl
  have hops : OpsT Tryz.prog (@Know.ops on_z_k) := trivial
  have hcalls : CallsT Tryz.prog (@Know.calls on_z_k) := ⟨callt rfl rfl fun w hG => rhz_c z y ⟨by omega, by omega⟩ ⟨by omega, by omega⟩ w,
    callt rfl rfl fun w hG => rAdd3_c l (hz z y) w hl (hz_Ok _ _),
    trivial⟩
  have fin : ∀ v, @comes on_z_k Tryz.prog glT 3000 on_z_f on_z_a = some v → ground v = true → Ending.returned (gval v) = .returned (.tuple #[(addD l (hz z y)).v, .int .i64 (addE l (hz z y))]) → Calls Tryz.prog 27 #[.agg #[.bool l.g, .string (natS l.n), .int .i64 l.x], .int .i64 z, .int .i64 y] w fun e w' => e = .returned (.tuple #[(addD l (hz z y)).v, .int .i64 (addE l (hz z y))]) ∧ Below w.heap.size w w' := fun v h1 h2 h3 => (@sym_ok _ on_z_k _ (@KnowOk.of _ on_z_k _ hops hcalls) (by kernel_rfl) _ _ _ _ h1 rfl h2 _ hG).mono fun e w' h => ⟨h.1.trans h3, h.2⟩
  clear hops hcalls
  exact fin _ (on_z_r1) rfl rfl
end Go.Proofs.YtamcnnocjelcjaaGreatDoor
namespace Go.Proofs.YtamcnnocjelcjaaGreatDoor
open Go Go.RowKit Nt
@[reducible] def ViewCells_a_in_f : FuncId := 3
@[reducible] def ViewCells_a_in_a : List AV := [.agg [.sym 0, .sym 1, .sym 2, .sym 3, .sym 4, .sym 5, .sym 6, .sym 7, .sym 8], .sym 9, .sym 10, .agg [.sym 11, .sym 12, .sym 13, .sym 14, .sym 15, .sym 16]]
@[reducible] noncomputable def ViewCells_a_in_k (b1 b2 b3 b4 b5 b6 b7 b8 b9 b10 b11 b12 b13 b14 b15 b16 : Bool) : Know := ⟨[([0, 16, 3], [.sym 6, .lit (.int .i64 (-4096))], .lit (.bool b1)),
  ([0, 14, 3], [.sym 6, .lit (.int .i64 4096)], .lit (.bool b2)),
  ([0, 16, 3], [.sym 7, .lit (.int .i64 1)], .lit (.bool b3)),
  ([0, 14, 3], [.sym 7, .lit (.int .i64 65536)], .lit (.bool b4)),
  ([0, 16, 3], [.sym 8, .lit (.int .i64 1)], .lit (.bool b5)),
  ([0, 14, 3], [.sym 8, .lit (.int .i64 65536)], .lit (.bool b6)),
  ([0, 1, 3], [.sym 7, .lit (.int .i64 1)], .sym 20),
  ([0, 16, 3], [.sym 9, .lit (.int .i64 0)], .lit (.bool b7)),
  ([0, 14, 3], [.sym 9, .sym 20], .lit (.bool b8)),
  ([0, 1, 3], [.sym 8, .lit (.int .i64 1)], .sym 21),
  ([0, 16, 3], [.sym 10, .lit (.int .i64 0)], .lit (.bool b9)),
  ([0, 14, 3], [.sym 10, .sym 21], .lit (.bool b10)),
  ([0, 2, 3], [.lit (.int .i64 2), .sym 9], .sym 22),
  ([0, 1, 3], [.sym 22, .sym 7], .sym 23),
  ([0, 2, 3], [.lit (.int .i64 2), .sym 10], .sym 31),
  ([0, 1, 3], [.sym 8, .sym 31], .sym 32),
  ([0, 1, 3], [.sym 32, .lit (.int .i64 2)], .sym 33),
  ([0, 12, 31], [.sym 30, .lit (.int .i64 0)], .lit (.bool (!b11))),
  ([0, 13, 3], [.sym 9, .lit (.int .i64 0)], .lit (.bool b12)),
  ([0, 16, 3], [.sym 9, .sym 7], .lit (.bool b13)),
  ([0, 13, 3], [.sym 10, .lit (.int .i64 0)], .lit (.bool b14)),
  ([0, 16, 3], [.sym 10, .sym 8], .lit (.bool b15)),
  ([0, 1, 3], [.sym 6, .lit (.int .i64 1)], .sym 41),
  ([0, 12, 3], [.sym 30, .lit (.int .i64 0)], .lit (.bool (!b11))),
  ([0, 11, 3], [.sym 17, .sym 17], .lit (.bool true)),
  ([0, 11, 3], [.sym 18, .sym 18], .lit (.bool true)),
  ([0, 11, 3], [.sym 19, .sym 19], .lit (.bool true)),
  ([0, 12, 31], [.sym 40, .lit (.int .i64 0)], .lit (.bool (!b16))),
  ([0, 12, 3], [.sym 40, .lit (.int .i64 0)], .lit (.bool (!b16))),
  ([0, 12, 30], [.agg [.sym 27, .sym 28, .sym 29, .sym 37, .sym 38, .sym 39, .sym 6], .agg [.sym 27, .sym 28, .sym 29, .sym 37, .sym 38, .sym 39, .sym 6]], .lit (.bool false))],
  [(19, [.agg [.sym 0, .sym 1, .sym 2, .sym 3, .sym 4, .sym 5]], .lit (.int .i64 0)),
  (6, [.agg [.sym 0, .sym 1, .sym 2, .sym 3, .sym 4, .sym 5, .sym 6, .sym 7, .sym 8], .agg [.sym 11, .sym 12, .sym 13, .sym 14, .sym 15, .sym 16]], .tup [.sym 17, .sym 18, .sym 19]),
  (7, [.agg [.sym 0, .sym 1, .sym 2, .sym 3, .sym 4, .sym 5, .sym 6, .sym 7, .sym 8]], .lit (.bool true)),
  (10, [.agg [.sym 11, .sym 12, .sym 13, .sym 14, .sym 15, .sym 16]], .lit (.bool true)),
  (11, [.agg [.sym 0, .sym 1, .sym 2, .sym 3, .sym 4, .sym 5, .sym 6, .sym 7, .sym 8], .agg [.sym 11, .sym 12, .sym 13, .sym 14, .sym 15, .sym 16]], .tup [.sym 17, .sym 18, .sym 19]),
  (8, [], .lit (.bool true)),
  (39, [.sym 23, .sym 6], .agg [.sym 24, .sym 25, .sym 26]),
  (38, [.agg [.sym 0, .sym 1, .sym 2], .agg [.sym 24, .sym 25, .sym 26]], .tup [.agg [.sym 27, .sym 28, .sym 29], .sym 30]),
  (39, [.sym 33, .sym 6], .agg [.sym 34, .sym 35, .sym 36]),
  (38, [.agg [.sym 3, .sym 4, .sym 5], .agg [.sym 34, .sym 35, .sym 36]], .tup [.agg [.sym 37, .sym 38, .sym 39], .sym 40]),
  (27, [.agg [.sym 0, .sym 1, .sym 2], .sym 23, .sym 41], .tup [.agg [.sym 27, .sym 28, .sym 29], .sym 30]),
  (27, [.agg [.sym 3, .sym 4, .sym 5], .sym 33, .sym 41], .tup [.agg [.sym 37, .sym 38, .sym 39], .sym 40])]⟩
theorem ViewCells_a_in_r1 : @comes (ViewCells_a_in_k true true true true true true true true true true true false false false false true) Tryz.prog glT 3000 ViewCells_a_in_f ViewCells_a_in_a = some (.lit (.bool true)) := by kernel_rfl
theorem ViewCells_a_in_r2 : @comes (ViewCells_a_in_k true true true true true true true true true true true false false false false false) Tryz.prog glT 3000 ViewCells_a_in_f ViewCells_a_in_a = some (.lit (.bool true)) := by kernel_rfl
theorem ViewCells_a_in_r3 (b16 : Bool) : @comes (ViewCells_a_in_k true true true true true true true true true true false false false false false b16) Tryz.prog glT 3000 ViewCells_a_in_f ViewCells_a_in_a = some (.lit (.bool true)) := by kernel_rfl
set_option maxRecDepth 100000 in
set_option maxHeartbeats 4000000 in
theorem ViewCells_a_in (p q : Dy) (y a b c r : Int) (g : Gs) (m n k : Int) (w : World) (hp : p.Ok) (hq : q.Ok) (hy : -4096 ≤ y ∧ y ≤ 4096) (ha : 1 ≤ a ∧ a ≤ 65536) (hb : 1 ≤ b ∧ b ≤ 65536) (hg : g.Ok) (HF : ∀ w, Globs glT w → Calls Tryz.prog 6 #[.agg #[.bool p.g, .string (natS p.n), .int .i64 p.x, .bool q.g, .string (natS q.n), .int .i64 q.x, .int .i64 y, .int .i64 a, .int .i64 b], .agg #[.bool g.re.g, .string (natS g.re.n), .int .i64 g.re.x, .bool g.im.g, .string (natS g.im.n), .int .i64 g.im.x]] w fun e w' => e = .returned (.tuple #[.int .i64 m, .int .i64 n, .int .i64 k]) ∧ Below w.heap.size w w') (HR : ∀ w, Globs glT w → Calls Tryz.prog 11 #[.agg #[.bool p.g, .string (natS p.n), .int .i64 p.x, .bool q.g, .string (natS q.n), .int .i64 q.x, .int .i64 y, .int .i64 a, .int .i64 b], .agg #[.bool g.re.g, .string (natS g.re.n), .int .i64 g.re.x, .bool g.im.g, .string (natS g.im.n), .int .i64 g.im.x]] w fun e w' => e = .returned (.tuple #[.int .i64 m, .int .i64 n, .int .i64 k]) ∧ Below w.heap.size w w') (c1 : 0 ≤ c) (c2 : c ≤ a - 1) (r1 : 0 ≤ r) (r2 : r ≤ b - 1) (hG : Globs glT w) : Calls Tryz.prog 3 #[.agg #[.bool p.g, .string (natS p.n), .int .i64 p.x, .bool q.g, .string (natS q.n), .int .i64 q.x, .int .i64 y, .int .i64 a, .int .i64 b], .int .i64 c, .int .i64 r, .agg #[.bool g.re.g, .string (natS g.re.n), .int .i64 g.re.x, .bool g.im.g, .string (natS g.im.n), .int .i64 g.im.x]] w fun e w' => e = .returned (.bool true) ∧ Below w.heap.size w w' := by
  obtain ⟨b1, i1⟩ := bex (y ≥ -4096)
  obtain ⟨b2, i2⟩ := bex (y ≤ 4096)
  obtain ⟨b3, i3⟩ := bex (a ≥ 1)
  obtain ⟨b4, i4⟩ := bex (a ≤ 65536)
  obtain ⟨b5, i5⟩ := bex (b ≥ 1)
  obtain ⟨b6, i6⟩ := bex (b ≤ 65536)
  obtain ⟨b7, i7⟩ := bex (c ≥ 0)
  obtain ⟨b8, i8⟩ := bex (c ≤ a - 1)
  obtain ⟨b9, i9⟩ := bex (r ≥ 0)
  obtain ⟨b10, i10⟩ := bex (r ≤ b - 1)
  obtain ⟨b11, i11⟩ := bex (addE p (hz ((2 * c) - a) (y - 1)) = 0)
  obtain ⟨b12, i12⟩ := bex (c < 0)
  obtain ⟨b13, i13⟩ := bex (c ≥ a)
  obtain ⟨b14, i14⟩ := bex (r < 0)
  obtain ⟨b15, i15⟩ := bex (r ≥ b)
  obtain ⟨b16, i16⟩ := bex (addE q (hz ((b - (2 * r)) - 2) (y - 1)) = 0)
  letI : Env := mkEnv glT [.bool p.g, .string (natS p.n), .int .i64 p.x, .bool q.g, .string (natS q.n), .int .i64 q.x, .int .i64 y, .int .i64 a, .int .i64 b, .int .i64 c, .int .i64 r, .bool g.re.g, .string (natS g.re.n), .int .i64 g.re.x, .bool g.im.g, .string (natS g.im.n), .int .i64 g.im.x, .int .i64 m, .int .i64 n, .int .i64 k, .int .i64 (a - 1), .int .i64 (b - 1), .int .i64 (2 * c), .int .i64 ((2 * c) - a), .bool (hz ((2 * c) - a) (y - 1)).g, .string (natS (hz ((2 * c) - a) (y - 1)).n), .int .i64 (hz ((2 * c) - a) (y - 1)).x, .bool (addD p (hz ((2 * c) - a) (y - 1))).g, .string (natS (addD p (hz ((2 * c) - a) (y - 1))).n), .int .i64 (addD p (hz ((2 * c) - a) (y - 1))).x, .int .i64 (addE p (hz ((2 * c) - a) (y - 1))), .int .i64 (2 * r), .int .i64 (b - (2 * r)), .int .i64 ((b - (2 * r)) - 2), .bool (hz ((b - (2 * r)) - 2) (y - 1)).g, .string (natS (hz ((b - (2 * r)) - 2) (y - 1)).n), .int .i64 (hz ((b - (2 * r)) - 2) (y - 1)).x, .bool (addD q (hz ((b - (2 * r)) - 2) (y - 1))).g, .string (natS (addD q (hz ((b - (2 * r)) - 2) (y - 1))).n), .int .i64 (addD q (hz ((b - (2 * r)) - 2) (y - 1))).x, .int .i64 (addE q (hz ((b - (2 * r)) - 2) (y - 1))), .int .i64 (y - 1)] rfl
  have hops : OpsT Tryz.prog (@Know.ops (ViewCells_a_in_k b1 b2 b3 b4 b5 b6 b7 b8 b9 b10 b11 b12 b13 b14 b15 b16)) := ⟨opt_geq_i rfl rfl i1,
    opt_leq_i rfl rfl i2,
    opt_geq_i rfl rfl i3,
    opt_leq_i rfl rfl i4,
    opt_geq_i rfl rfl i5,
    opt_leq_i rfl rfl i6,
    vopt_sub rfl rfl rfl rfl (by omega) ⟨by omega, by omega⟩,
    opt_geq_i rfl rfl i7,
    opt_leq_i rfl rfl i8,
    vopt_sub rfl rfl rfl rfl (by omega) ⟨by omega, by omega⟩,
    opt_geq_i rfl rfl i9,
    opt_leq_i rfl rfl i10,
    vopt_mul rfl rfl rfl rfl (by omega) ⟨by omega, by omega⟩,
    vopt_sub rfl rfl rfl rfl (by omega) ⟨by omega, by omega⟩,
    vopt_mul rfl rfl rfl rfl (by omega) ⟨by omega, by omega⟩,
    vopt_sub rfl rfl rfl rfl (by omega) ⟨by omega, by omega⟩,
    vopt_sub rfl rfl rfl rfl (by omega) ⟨by omega, by omega⟩,
    opt_neq_i rfl rfl i11,
    opt_lss_i rfl rfl i12,
    opt_geq_i rfl rfl i13,
    opt_lss_i rfl rfl i14,
    opt_geq_i rfl rfl i15,
    vopt_sub rfl rfl rfl rfl (by omega) ⟨by omega, by omega⟩,
    opt_neq_i rfl rfl i11,
    opt_eql_t rfl rfl rfl,
    opt_eql_t rfl rfl rfl,
    opt_eql_t rfl rfl rfl,
    opt_neq_i rfl rfl i16,
    opt_neq_i rfl rfl i16,
    opt_self_neq fun p q w => self_7 p q w,
    trivial⟩
  have hcalls : CallsT Tryz.prog (@Know.calls (ViewCells_a_in_k b1 b2 b3 b4 b5 b6 b7 b8 b9 b10 b11 b12 b13 b14 b15 b16)) := ⟨callt rfl rfl fun w hG => GCheck_gs ⟨p, q⟩ ⟨hp, hq⟩ w hG,
    callt rfl rfl fun w hG => HF w hG,
    callt rfl rfl fun w hG => rMay24_ok p q y a b w hp hq hy ha hb,
    callt rfl rfl fun w hG => rMay6_ok g w hg,
    callt rfl rfl fun w hG => HR w hG,
    callt rfl rfl fun w hG => awake24_c w hG,
    callt rfl rfl fun w hG => halves_z ((2 * c) - a) y w ⟨by omega, by omega⟩ ⟨by omega, by omega⟩ hG,
    callt rfl rfl fun w hG => DAdd_c p (hz ((2 * c) - a) (y - 1)) w hp (hz_Ok _ _) hG,
    callt rfl rfl fun w hG => halves_z ((b - (2 * r)) - 2) y w ⟨by omega, by omega⟩ ⟨by omega, by omega⟩ hG,
    callt rfl rfl fun w hG => DAdd_c q (hz ((b - (2 * r)) - 2) (y - 1)) w hq (hz_Ok _ _) hG,
    callt rfl rfl fun w hG => on_z p ((2 * c) - a) (y - 1) w hp ⟨by omega, by omega⟩ ⟨by omega, by omega⟩ hG,
    callt rfl rfl fun w hG => on_z q ((b - (2 * r)) - 2) (y - 1) w hq ⟨by omega, by omega⟩ ⟨by omega, by omega⟩ hG,
    trivial⟩
  have fin : ∀ v, @comes (ViewCells_a_in_k b1 b2 b3 b4 b5 b6 b7 b8 b9 b10 b11 b12 b13 b14 b15 b16) Tryz.prog glT 3000 ViewCells_a_in_f ViewCells_a_in_a = some v → ground v = true → Ending.returned (gval v) = .returned (.bool true) → Calls Tryz.prog 3 #[.agg #[.bool p.g, .string (natS p.n), .int .i64 p.x, .bool q.g, .string (natS q.n), .int .i64 q.x, .int .i64 y, .int .i64 a, .int .i64 b], .int .i64 c, .int .i64 r, .agg #[.bool g.re.g, .string (natS g.re.n), .int .i64 g.re.x, .bool g.im.g, .string (natS g.im.n), .int .i64 g.im.x]] w fun e w' => e = .returned (.bool true) ∧ Below w.heap.size w w' := fun v h1 h2 h3 => (@sym_ok _ (ViewCells_a_in_k b1 b2 b3 b4 b5 b6 b7 b8 b9 b10 b11 b12 b13 b14 b15 b16) _ (@KnowOk.of _ (ViewCells_a_in_k b1 b2 b3 b4 b5 b6 b7 b8 b9 b10 b11 b12 b13 b14 b15 b16) _ hops hcalls) (by kernel_rfl) _ _ _ _ h1 rfl h2 _ hG).mono fun e w' h => ⟨h.1.trans h3, h.2⟩
  clear hops hcalls
  cases b1 with
  | true =>
    have h1 : y ≥ -4096 := i1.1 rfl
    cases b2 with
    | true =>
      have h2 : y ≤ 4096 := i2.1 rfl
      cases b3 with
      | true =>
        have h3 : a ≥ 1 := i3.1 rfl
        cases b4 with
        | true =>
          have h4 : a ≤ 65536 := i4.1 rfl
          cases b5 with
          | true =>
            have h5 : b ≥ 1 := i5.1 rfl
            cases b6 with
            | true =>
              have h6 : b ≤ 65536 := i6.1 rfl
              cases b7 with
              | true =>
                have h7 : c ≥ 0 := i7.1 rfl
                cases b8 with
                | true =>
                  have h8 : c ≤ a - 1 := i8.1 rfl
                  cases b9 with
                  | true =>
                    have h9 : r ≥ 0 := i9.1 rfl
                    cases b10 with
                    | true =>
                      have h10 : r ≤ b - 1 := i10.1 rfl
                      cases b11 with
                      | true =>
                        have h11 : addE p (hz ((2 * c) - a) (y - 1)) = 0 := i11.1 rfl
                        cases b16 with
                        | true =>
                          have h16 : addE q (hz ((b - (2 * r)) - 2) (y - 1)) = 0 := i16.1 rfl
                          cases b12 with
                          | true =>
                            exact absurd (i12.1 rfl) ((by omega))
                          | false =>
                            have h12 : ¬ (c < 0) := fun c => Bool.false_ne_true (i12.2 c)
                            cases b13 with
                            | true =>
                              exact absurd (i13.1 rfl) ((by omega))
                            | false =>
                              have h13 : ¬ (c ≥ a) := fun c => Bool.false_ne_true (i13.2 c)
                              cases b14 with
                              | true =>
                                exact absurd (i14.1 rfl) ((by omega))
                              | false =>
                                have h14 : ¬ (r < 0) := fun c => Bool.false_ne_true (i14.2 c)
                                cases b15 with
                                | true =>
                                  exact absurd (i15.1 rfl) ((by omega))
                                | false =>
                                  have h15 : ¬ (r ≥ b) := fun c => Bool.false_ne_true (i15.2 c)
                                  exact fin _ (ViewCells_a_in_r1) rfl rfl
                        | false =>
                          have h16 : ¬ (addE q (hz ((b - (2 * r)) - 2) (y - 1)) = 0) := fun c => Bool.false_ne_true (i16.2 c)
                          cases b12 with
                          | true =>
                            exact absurd (i12.1 rfl) ((by omega))
                          | false =>
                            have h12 : ¬ (c < 0) := fun c => Bool.false_ne_true (i12.2 c)
                            cases b13 with
                            | true =>
                              exact absurd (i13.1 rfl) ((by omega))
                            | false =>
                              have h13 : ¬ (c ≥ a) := fun c => Bool.false_ne_true (i13.2 c)
                              cases b14 with
                              | true =>
                                exact absurd (i14.1 rfl) ((by omega))
                              | false =>
                                have h14 : ¬ (r < 0) := fun c => Bool.false_ne_true (i14.2 c)
                                cases b15 with
                                | true =>
                                  exact absurd (i15.1 rfl) ((by omega))
                                | false =>
                                  have h15 : ¬ (r ≥ b) := fun c => Bool.false_ne_true (i15.2 c)
                                  exact fin _ (ViewCells_a_in_r2) rfl rfl
                      | false =>
                        have h11 : ¬ (addE p (hz ((2 * c) - a) (y - 1)) = 0) := fun c => Bool.false_ne_true (i11.2 c)
                        cases b12 with
                        | true =>
                          exact absurd (i12.1 rfl) ((by omega))
                        | false =>
                          have h12 : ¬ (c < 0) := fun c => Bool.false_ne_true (i12.2 c)
                          cases b13 with
                          | true =>
                            exact absurd (i13.1 rfl) ((by omega))
                          | false =>
                            have h13 : ¬ (c ≥ a) := fun c => Bool.false_ne_true (i13.2 c)
                            cases b14 with
                            | true =>
                              exact absurd (i14.1 rfl) ((by omega))
                            | false =>
                              have h14 : ¬ (r < 0) := fun c => Bool.false_ne_true (i14.2 c)
                              cases b15 with
                              | true =>
                                exact absurd (i15.1 rfl) ((by omega))
                              | false =>
                                have h15 : ¬ (r ≥ b) := fun c => Bool.false_ne_true (i15.2 c)
                                exact fin _ (ViewCells_a_in_r3 b16) rfl rfl
                    | false =>
                      exact absurd (i10.2 ((by omega))) Bool.false_ne_true
                  | false =>
                    exact absurd (i9.2 ((by omega))) Bool.false_ne_true
                | false =>
                  exact absurd (i8.2 ((by omega))) Bool.false_ne_true
              | false =>
                exact absurd (i7.2 ((by omega))) Bool.false_ne_true
            | false =>
              exact absurd (i6.2 ((by omega))) Bool.false_ne_true
          | false =>
            exact absurd (i5.2 ((by omega))) Bool.false_ne_true
        | false =>
          exact absurd (i4.2 ((by omega))) Bool.false_ne_true
      | false =>
        exact absurd (i3.2 ((by omega))) Bool.false_ne_true
    | false =>
      exact absurd (i2.2 ((by omega))) Bool.false_ne_true
  | false =>
    exact absurd (i1.2 ((by omega))) Bool.false_ne_true
@[reducible] def ViewCells_c_in_f : FuncId := 3
@[reducible] def ViewCells_c_in_a : List AV := [.agg [.sym 0, .sym 1, .sym 2, .sym 3, .sym 4, .sym 5, .sym 6, .sym 7, .sym 8], .sym 9, .sym 10, .agg [.sym 11, .sym 12, .sym 13, .sym 14, .sym 15, .sym 16]]
@[reducible] noncomputable def ViewCells_c_in_k (b1 b2 b3 b4 b5 b6 b7 b8 b9 b10 b11 b12 b13 b14 b15 b16 : Bool) : Know := ⟨[([0, 16, 3], [.sym 6, .lit (.int .i64 (-4096))], .lit (.bool b1)),
  ([0, 14, 3], [.sym 6, .lit (.int .i64 4096)], .lit (.bool b2)),
  ([0, 16, 3], [.sym 7, .lit (.int .i64 1)], .lit (.bool b3)),
  ([0, 14, 3], [.sym 7, .lit (.int .i64 65536)], .lit (.bool b4)),
  ([0, 16, 3], [.sym 8, .lit (.int .i64 1)], .lit (.bool b5)),
  ([0, 14, 3], [.sym 8, .lit (.int .i64 65536)], .lit (.bool b6)),
  ([0, 1, 3], [.sym 7, .lit (.int .i64 1)], .sym 17),
  ([0, 16, 3], [.sym 9, .lit (.int .i64 0)], .lit (.bool b7)),
  ([0, 14, 3], [.sym 9, .sym 17], .lit (.bool b8)),
  ([0, 1, 3], [.sym 8, .lit (.int .i64 1)], .sym 18),
  ([0, 16, 3], [.sym 10, .lit (.int .i64 0)], .lit (.bool b9)),
  ([0, 14, 3], [.sym 10, .sym 18], .lit (.bool b10)),
  ([0, 2, 3], [.lit (.int .i64 2), .sym 9], .sym 19),
  ([0, 1, 3], [.sym 19, .sym 7], .sym 20),
  ([0, 2, 3], [.lit (.int .i64 2), .sym 10], .sym 28),
  ([0, 1, 3], [.sym 8, .sym 28], .sym 29),
  ([0, 1, 3], [.sym 29, .lit (.int .i64 2)], .sym 30),
  ([0, 12, 31], [.sym 27, .lit (.int .i64 0)], .lit (.bool (!b11))),
  ([0, 13, 3], [.sym 9, .lit (.int .i64 0)], .lit (.bool b12)),
  ([0, 16, 3], [.sym 9, .sym 7], .lit (.bool b13)),
  ([0, 13, 3], [.sym 10, .lit (.int .i64 0)], .lit (.bool b14)),
  ([0, 16, 3], [.sym 10, .sym 8], .lit (.bool b15)),
  ([0, 1, 3], [.sym 6, .lit (.int .i64 1)], .sym 38),
  ([0, 12, 3], [.sym 27, .lit (.int .i64 0)], .lit (.bool (!b11))),
  ([0, 12, 31], [.sym 37, .lit (.int .i64 0)], .lit (.bool (!b16))),
  ([0, 12, 3], [.sym 37, .lit (.int .i64 0)], .lit (.bool (!b16))),
  ([0, 12, 30], [.agg [.sym 24, .sym 25, .sym 26, .sym 34, .sym 35, .sym 36, .sym 6], .agg [.sym 24, .sym 25, .sym 26, .sym 34, .sym 35, .sym 36, .sym 6]], .lit (.bool false))],
  [(19, [.agg [.sym 0, .sym 1, .sym 2, .sym 3, .sym 4, .sym 5]], .lit (.int .i64 0)),
  (6, [.agg [.sym 0, .sym 1, .sym 2, .sym 3, .sym 4, .sym 5, .sym 6, .sym 7, .sym 8], .agg [.sym 11, .sym 12, .sym 13, .sym 14, .sym 15, .sym 16]], .lit (.tuple #[.int .i64 0, .int .i64 0, .int .i64 2])),
  (7, [.agg [.sym 0, .sym 1, .sym 2, .sym 3, .sym 4, .sym 5, .sym 6, .sym 7, .sym 8]], .lit (.bool true)),
  (10, [.agg [.sym 11, .sym 12, .sym 13, .sym 14, .sym 15, .sym 16]], .lit (.bool false)),
  (8, [], .lit (.bool true)),
  (39, [.sym 20, .sym 6], .agg [.sym 21, .sym 22, .sym 23]),
  (38, [.agg [.sym 0, .sym 1, .sym 2], .agg [.sym 21, .sym 22, .sym 23]], .tup [.agg [.sym 24, .sym 25, .sym 26], .sym 27]),
  (39, [.sym 30, .sym 6], .agg [.sym 31, .sym 32, .sym 33]),
  (38, [.agg [.sym 3, .sym 4, .sym 5], .agg [.sym 31, .sym 32, .sym 33]], .tup [.agg [.sym 34, .sym 35, .sym 36], .sym 37]),
  (27, [.agg [.sym 0, .sym 1, .sym 2], .sym 20, .sym 38], .tup [.agg [.sym 24, .sym 25, .sym 26], .sym 27]),
  (27, [.agg [.sym 3, .sym 4, .sym 5], .sym 30, .sym 38], .tup [.agg [.sym 34, .sym 35, .sym 36], .sym 37])]⟩
theorem ViewCells_c_in_r1 : @comes (ViewCells_c_in_k true true true true true true true true true true true false false false false true) Tryz.prog glT 3000 ViewCells_c_in_f ViewCells_c_in_a = some (.lit (.bool true)) := by kernel_rfl
theorem ViewCells_c_in_r2 : @comes (ViewCells_c_in_k true true true true true true true true true true true false false false false false) Tryz.prog glT 3000 ViewCells_c_in_f ViewCells_c_in_a = some (.lit (.bool true)) := by kernel_rfl
theorem ViewCells_c_in_r3 (b16 : Bool) : @comes (ViewCells_c_in_k true true true true true true true true true true false false false false false b16) Tryz.prog glT 3000 ViewCells_c_in_f ViewCells_c_in_a = some (.lit (.bool true)) := by kernel_rfl
set_option maxRecDepth 100000 in
set_option maxHeartbeats 4000000 in
theorem ViewCells_c_in (p q : Dy) (y a b c r : Int) (g : Gt) (w : World) (hp : p.Ok) (hq : q.Ok) (hy : -4096 ≤ y ∧ y ≤ 4096) (ha : 1 ≤ a ∧ a ≤ 65536) (hb : 1 ≤ b ∧ b ≤ 65536) (zg : g.Small) (hn : ¬ g.Ok) (HF : ∀ w, Globs glT w → Calls Tryz.prog 6 #[.agg #[.bool p.g, .string (natS p.n), .int .i64 p.x, .bool q.g, .string (natS q.n), .int .i64 q.x, .int .i64 y, .int .i64 a, .int .i64 b], .agg #[.bool g.re.g, .string g.re.s, .int .i64 g.re.x, .bool g.im.g, .string g.im.s, .int .i64 g.im.x]] w fun e w' => e = .returned (.tuple #[.int .i64 0, .int .i64 0, .int .i64 2]) ∧ Below w.heap.size w w') (c1 : 0 ≤ c) (c2 : c ≤ a - 1) (r1 : 0 ≤ r) (r2 : r ≤ b - 1) (hG : Globs glT w) : Calls Tryz.prog 3 #[.agg #[.bool p.g, .string (natS p.n), .int .i64 p.x, .bool q.g, .string (natS q.n), .int .i64 q.x, .int .i64 y, .int .i64 a, .int .i64 b], .int .i64 c, .int .i64 r, .agg #[.bool g.re.g, .string g.re.s, .int .i64 g.re.x, .bool g.im.g, .string g.im.s, .int .i64 g.im.x]] w fun e w' => e = .returned (.bool true) ∧ Below w.heap.size w w' := by
  obtain ⟨b1, i1⟩ := bex (y ≥ -4096)
  obtain ⟨b2, i2⟩ := bex (y ≤ 4096)
  obtain ⟨b3, i3⟩ := bex (a ≥ 1)
  obtain ⟨b4, i4⟩ := bex (a ≤ 65536)
  obtain ⟨b5, i5⟩ := bex (b ≥ 1)
  obtain ⟨b6, i6⟩ := bex (b ≤ 65536)
  obtain ⟨b7, i7⟩ := bex (c ≥ 0)
  obtain ⟨b8, i8⟩ := bex (c ≤ a - 1)
  obtain ⟨b9, i9⟩ := bex (r ≥ 0)
  obtain ⟨b10, i10⟩ := bex (r ≤ b - 1)
  obtain ⟨b11, i11⟩ := bex (addE p (hz ((2 * c) - a) (y - 1)) = 0)
  obtain ⟨b12, i12⟩ := bex (c < 0)
  obtain ⟨b13, i13⟩ := bex (c ≥ a)
  obtain ⟨b14, i14⟩ := bex (r < 0)
  obtain ⟨b15, i15⟩ := bex (r ≥ b)
  obtain ⟨b16, i16⟩ := bex (addE q (hz ((b - (2 * r)) - 2) (y - 1)) = 0)
  letI : Env := mkEnv glT [.bool p.g, .string (natS p.n), .int .i64 p.x, .bool q.g, .string (natS q.n), .int .i64 q.x, .int .i64 y, .int .i64 a, .int .i64 b, .int .i64 c, .int .i64 r, .bool g.re.g, .string g.re.s, .int .i64 g.re.x, .bool g.im.g, .string g.im.s, .int .i64 g.im.x, .int .i64 (a - 1), .int .i64 (b - 1), .int .i64 (2 * c), .int .i64 ((2 * c) - a), .bool (hz ((2 * c) - a) (y - 1)).g, .string (natS (hz ((2 * c) - a) (y - 1)).n), .int .i64 (hz ((2 * c) - a) (y - 1)).x, .bool (addD p (hz ((2 * c) - a) (y - 1))).g, .string (natS (addD p (hz ((2 * c) - a) (y - 1))).n), .int .i64 (addD p (hz ((2 * c) - a) (y - 1))).x, .int .i64 (addE p (hz ((2 * c) - a) (y - 1))), .int .i64 (2 * r), .int .i64 (b - (2 * r)), .int .i64 ((b - (2 * r)) - 2), .bool (hz ((b - (2 * r)) - 2) (y - 1)).g, .string (natS (hz ((b - (2 * r)) - 2) (y - 1)).n), .int .i64 (hz ((b - (2 * r)) - 2) (y - 1)).x, .bool (addD q (hz ((b - (2 * r)) - 2) (y - 1))).g, .string (natS (addD q (hz ((b - (2 * r)) - 2) (y - 1))).n), .int .i64 (addD q (hz ((b - (2 * r)) - 2) (y - 1))).x, .int .i64 (addE q (hz ((b - (2 * r)) - 2) (y - 1))), .int .i64 (y - 1)] rfl
  have hops : OpsT Tryz.prog (@Know.ops (ViewCells_c_in_k b1 b2 b3 b4 b5 b6 b7 b8 b9 b10 b11 b12 b13 b14 b15 b16)) := ⟨opt_geq_i rfl rfl i1,
    opt_leq_i rfl rfl i2,
    opt_geq_i rfl rfl i3,
    opt_leq_i rfl rfl i4,
    opt_geq_i rfl rfl i5,
    opt_leq_i rfl rfl i6,
    vopt_sub rfl rfl rfl rfl (by omega) ⟨by omega, by omega⟩,
    opt_geq_i rfl rfl i7,
    opt_leq_i rfl rfl i8,
    vopt_sub rfl rfl rfl rfl (by omega) ⟨by omega, by omega⟩,
    opt_geq_i rfl rfl i9,
    opt_leq_i rfl rfl i10,
    vopt_mul rfl rfl rfl rfl (by omega) ⟨by omega, by omega⟩,
    vopt_sub rfl rfl rfl rfl (by omega) ⟨by omega, by omega⟩,
    vopt_mul rfl rfl rfl rfl (by omega) ⟨by omega, by omega⟩,
    vopt_sub rfl rfl rfl rfl (by omega) ⟨by omega, by omega⟩,
    vopt_sub rfl rfl rfl rfl (by omega) ⟨by omega, by omega⟩,
    opt_neq_i rfl rfl i11,
    opt_lss_i rfl rfl i12,
    opt_geq_i rfl rfl i13,
    opt_lss_i rfl rfl i14,
    opt_geq_i rfl rfl i15,
    vopt_sub rfl rfl rfl rfl (by omega) ⟨by omega, by omega⟩,
    opt_neq_i rfl rfl i11,
    opt_neq_i rfl rfl i16,
    opt_neq_i rfl rfl i16,
    opt_self_neq fun p q w => self_7 p q w,
    trivial⟩
  have hcalls : CallsT Tryz.prog (@Know.calls (ViewCells_c_in_k b1 b2 b3 b4 b5 b6 b7 b8 b9 b10 b11 b12 b13 b14 b15 b16)) := ⟨callt rfl rfl fun w hG => GCheck_gs ⟨p, q⟩ ⟨hp, hq⟩ w hG,
    callt rfl rfl fun w hG => HF w hG,
    callt rfl rfl fun w hG => rMay24_ok p q y a b w hp hq hy ha hb,
    callt rfl rfl fun w hG => rGMay_no g w zg.1 zg.2 hn hG,
    callt rfl rfl fun w hG => awake24_c w hG,
    callt rfl rfl fun w hG => halves_z ((2 * c) - a) y w ⟨by omega, by omega⟩ ⟨by omega, by omega⟩ hG,
    callt rfl rfl fun w hG => DAdd_c p (hz ((2 * c) - a) (y - 1)) w hp (hz_Ok _ _) hG,
    callt rfl rfl fun w hG => halves_z ((b - (2 * r)) - 2) y w ⟨by omega, by omega⟩ ⟨by omega, by omega⟩ hG,
    callt rfl rfl fun w hG => DAdd_c q (hz ((b - (2 * r)) - 2) (y - 1)) w hq (hz_Ok _ _) hG,
    callt rfl rfl fun w hG => on_z p ((2 * c) - a) (y - 1) w hp ⟨by omega, by omega⟩ ⟨by omega, by omega⟩ hG,
    callt rfl rfl fun w hG => on_z q ((b - (2 * r)) - 2) (y - 1) w hq ⟨by omega, by omega⟩ ⟨by omega, by omega⟩ hG,
    trivial⟩
  have fin : ∀ v, @comes (ViewCells_c_in_k b1 b2 b3 b4 b5 b6 b7 b8 b9 b10 b11 b12 b13 b14 b15 b16) Tryz.prog glT 3000 ViewCells_c_in_f ViewCells_c_in_a = some v → ground v = true → Ending.returned (gval v) = .returned (.bool true) → Calls Tryz.prog 3 #[.agg #[.bool p.g, .string (natS p.n), .int .i64 p.x, .bool q.g, .string (natS q.n), .int .i64 q.x, .int .i64 y, .int .i64 a, .int .i64 b], .int .i64 c, .int .i64 r, .agg #[.bool g.re.g, .string g.re.s, .int .i64 g.re.x, .bool g.im.g, .string g.im.s, .int .i64 g.im.x]] w fun e w' => e = .returned (.bool true) ∧ Below w.heap.size w w' := fun v h1 h2 h3 => (@sym_ok _ (ViewCells_c_in_k b1 b2 b3 b4 b5 b6 b7 b8 b9 b10 b11 b12 b13 b14 b15 b16) _ (@KnowOk.of _ (ViewCells_c_in_k b1 b2 b3 b4 b5 b6 b7 b8 b9 b10 b11 b12 b13 b14 b15 b16) _ hops hcalls) (by kernel_rfl) _ _ _ _ h1 rfl h2 _ hG).mono fun e w' h => ⟨h.1.trans h3, h.2⟩
  clear hops hcalls
  cases b1 with
  | true =>
    have h1 : y ≥ -4096 := i1.1 rfl
    cases b2 with
    | true =>
      have h2 : y ≤ 4096 := i2.1 rfl
      cases b3 with
      | true =>
        have h3 : a ≥ 1 := i3.1 rfl
        cases b4 with
        | true =>
          have h4 : a ≤ 65536 := i4.1 rfl
          cases b5 with
          | true =>
            have h5 : b ≥ 1 := i5.1 rfl
            cases b6 with
            | true =>
              have h6 : b ≤ 65536 := i6.1 rfl
              cases b7 with
              | true =>
                have h7 : c ≥ 0 := i7.1 rfl
                cases b8 with
                | true =>
                  have h8 : c ≤ a - 1 := i8.1 rfl
                  cases b9 with
                  | true =>
                    have h9 : r ≥ 0 := i9.1 rfl
                    cases b10 with
                    | true =>
                      have h10 : r ≤ b - 1 := i10.1 rfl
                      cases b11 with
                      | true =>
                        have h11 : addE p (hz ((2 * c) - a) (y - 1)) = 0 := i11.1 rfl
                        cases b16 with
                        | true =>
                          have h16 : addE q (hz ((b - (2 * r)) - 2) (y - 1)) = 0 := i16.1 rfl
                          cases b12 with
                          | true =>
                            exact absurd (i12.1 rfl) ((by omega))
                          | false =>
                            have h12 : ¬ (c < 0) := fun c => Bool.false_ne_true (i12.2 c)
                            cases b13 with
                            | true =>
                              exact absurd (i13.1 rfl) ((by omega))
                            | false =>
                              have h13 : ¬ (c ≥ a) := fun c => Bool.false_ne_true (i13.2 c)
                              cases b14 with
                              | true =>
                                exact absurd (i14.1 rfl) ((by omega))
                              | false =>
                                have h14 : ¬ (r < 0) := fun c => Bool.false_ne_true (i14.2 c)
                                cases b15 with
                                | true =>
                                  exact absurd (i15.1 rfl) ((by omega))
                                | false =>
                                  have h15 : ¬ (r ≥ b) := fun c => Bool.false_ne_true (i15.2 c)
                                  exact fin _ (ViewCells_c_in_r1) rfl rfl
                        | false =>
                          have h16 : ¬ (addE q (hz ((b - (2 * r)) - 2) (y - 1)) = 0) := fun c => Bool.false_ne_true (i16.2 c)
                          cases b12 with
                          | true =>
                            exact absurd (i12.1 rfl) ((by omega))
                          | false =>
                            have h12 : ¬ (c < 0) := fun c => Bool.false_ne_true (i12.2 c)
                            cases b13 with
                            | true =>
                              exact absurd (i13.1 rfl) ((by omega))
                            | false =>
                              have h13 : ¬ (c ≥ a) := fun c => Bool.false_ne_true (i13.2 c)
                              cases b14 with
                              | true =>
                                exact absurd (i14.1 rfl) ((by omega))
                              | false =>
                                have h14 : ¬ (r < 0) := fun c => Bool.false_ne_true (i14.2 c)
                                cases b15 with
                                | true =>
                                  exact absurd (i15.1 rfl) ((by omega))
                                | false =>
                                  have h15 : ¬ (r ≥ b) := fun c => Bool.false_ne_true (i15.2 c)
                                  exact fin _ (ViewCells_c_in_r2) rfl rfl
                      | false =>
                        have h11 : ¬ (addE p (hz ((2 * c) - a) (y - 1)) = 0) := fun c => Bool.false_ne_true (i11.2 c)
                        cases b12 with
                        | true =>
                          exact absurd (i12.1 rfl) ((by omega))
                        | false =>
                          have h12 : ¬ (c < 0) := fun c => Bool.false_ne_true (i12.2 c)
                          cases b13 with
                          | true =>
                            exact absurd (i13.1 rfl) ((by omega))
                          | false =>
                            have h13 : ¬ (c ≥ a) := fun c => Bool.false_ne_true (i13.2 c)
                            cases b14 with
                            | true =>
                              exact absurd (i14.1 rfl) ((by omega))
                            | false =>
                              have h14 : ¬ (r < 0) := fun c => Bool.false_ne_true (i14.2 c)
                              cases b15 with
                              | true =>
                                exact absurd (i15.1 rfl) ((by omega))
                              | false =>
                                have h15 : ¬ (r ≥ b) := fun c => Bool.false_ne_true (i15.2 c)
                                exact fin _ (ViewCells_c_in_r3 b16) rfl rfl
                    | false =>
                      exact absurd (i10.2 ((by omega))) Bool.false_ne_true
                  | false =>
                    exact absurd (i9.2 ((by omega))) Bool.false_ne_true
                | false =>
                  exact absurd (i8.2 ((by omega))) Bool.false_ne_true
              | false =>
                exact absurd (i7.2 ((by omega))) Bool.false_ne_true
            | false =>
              exact absurd (i6.2 ((by omega))) Bool.false_ne_true
          | false =>
            exact absurd (i5.2 ((by omega))) Bool.false_ne_true
        | false =>
          exact absurd (i4.2 ((by omega))) Bool.false_ne_true
      | false =>
        exact absurd (i3.2 ((by omega))) Bool.false_ne_true
    | false =>
      exact absurd (i2.2 ((by omega))) Bool.false_ne_true
  | false =>
    exact absurd (i1.2 ((by omega))) Bool.false_ne_true
@[reducible] def ViewCells_a_out_f : FuncId := 3
@[reducible] def ViewCells_a_out_a : List AV := [.agg [.sym 0, .sym 1, .sym 2, .sym 3, .sym 4, .sym 5, .sym 6, .sym 7, .sym 8], .sym 9, .sym 10, .agg [.sym 11, .sym 12, .sym 13, .sym 14, .sym 15, .sym 16]]
@[reducible] noncomputable def ViewCells_a_out_k (b1 b2 b3 b4 b5 b6 b7 b8 b9 b10 b11 b12 b13 b14 : Bool) : Know := ⟨[([0, 16, 3], [.sym 6, .lit (.int .i64 (-4096))], .lit (.bool b1)),
  ([0, 14, 3], [.sym 6, .lit (.int .i64 4096)], .lit (.bool b2)),
  ([0, 16, 3], [.sym 7, .lit (.int .i64 1)], .lit (.bool b3)),
  ([0, 14, 3], [.sym 7, .lit (.int .i64 65536)], .lit (.bool b4)),
  ([0, 16, 3], [.sym 8, .lit (.int .i64 1)], .lit (.bool b5)),
  ([0, 14, 3], [.sym 8, .lit (.int .i64 65536)], .lit (.bool b6)),
  ([0, 1, 3], [.sym 7, .lit (.int .i64 1)], .sym 20),
  ([0, 16, 3], [.sym 9, .lit (.int .i64 0)], .lit (.bool b7)),
  ([0, 14, 3], [.sym 9, .sym 20], .lit (.bool b8)),
  ([0, 1, 3], [.sym 8, .lit (.int .i64 1)], .sym 21),
  ([0, 16, 3], [.sym 10, .lit (.int .i64 0)], .lit (.bool b9)),
  ([0, 14, 3], [.sym 10, .sym 21], .lit (.bool b10)),
  ([0, 13, 3], [.sym 9, .lit (.int .i64 0)], .lit (.bool b11)),
  ([0, 16, 3], [.sym 9, .sym 7], .lit (.bool b12)),
  ([0, 13, 3], [.sym 10, .lit (.int .i64 0)], .lit (.bool b13)),
  ([0, 16, 3], [.sym 10, .sym 8], .lit (.bool b14)),
  ([0, 11, 3], [.sym 17, .sym 17], .lit (.bool true)),
  ([0, 11, 3], [.sym 18, .sym 18], .lit (.bool true)),
  ([0, 11, 3], [.sym 19, .sym 19], .lit (.bool true))],
  [(19, [.agg [.sym 0, .sym 1, .sym 2, .sym 3, .sym 4, .sym 5]], .lit (.int .i64 0)),
  (6, [.agg [.sym 0, .sym 1, .sym 2, .sym 3, .sym 4, .sym 5, .sym 6, .sym 7, .sym 8], .agg [.sym 11, .sym 12, .sym 13, .sym 14, .sym 15, .sym 16]], .tup [.sym 17, .sym 18, .sym 19]),
  (7, [.agg [.sym 0, .sym 1, .sym 2, .sym 3, .sym 4, .sym 5, .sym 6, .sym 7, .sym 8]], .lit (.bool true)),
  (10, [.agg [.sym 11, .sym 12, .sym 13, .sym 14, .sym 15, .sym 16]], .lit (.bool true)),
  (11, [.agg [.sym 0, .sym 1, .sym 2, .sym 3, .sym 4, .sym 5, .sym 6, .sym 7, .sym 8], .agg [.sym 11, .sym 12, .sym 13, .sym 14, .sym 15, .sym 16]], .tup [.sym 17, .sym 18, .sym 19]),
  (8, [], .lit (.bool true))]⟩
theorem ViewCells_a_out_r1 : @comes (ViewCells_a_out_k true true true true true true true true true false false false false true) Tryz.prog glT 3000 ViewCells_a_out_f ViewCells_a_out_a = some (.lit (.bool true)) := by kernel_rfl
theorem ViewCells_a_out_r2 (b10 b14 : Bool) : @comes (ViewCells_a_out_k true true true true true true true true false b10 false false true b14) Tryz.prog glT 3000 ViewCells_a_out_f ViewCells_a_out_a = some (.lit (.bool true)) := by kernel_rfl
theorem ViewCells_a_out_r3 (b9 b10 b13 b14 : Bool) : @comes (ViewCells_a_out_k true true true true true true true false b9 b10 false true b13 b14) Tryz.prog glT 3000 ViewCells_a_out_f ViewCells_a_out_a = some (.lit (.bool true)) := by kernel_rfl
theorem ViewCells_a_out_r4 (b8 b9 b10 b12 b13 b14 : Bool) : @comes (ViewCells_a_out_k true true true true true true false b8 b9 b10 true b12 b13 b14) Tryz.prog glT 3000 ViewCells_a_out_f ViewCells_a_out_a = some (.lit (.bool true)) := by kernel_rfl
set_option maxRecDepth 100000 in
set_option maxHeartbeats 4000000 in
theorem ViewCells_a_out (p q : Dy) (y a b c r : Int) (g : Gs) (m n k : Int) (w : World) (hp : p.Ok) (hq : q.Ok) (hy : -4096 ≤ y ∧ y ≤ 4096) (ha : 1 ≤ a ∧ a ≤ 65536) (hb : 1 ≤ b ∧ b ≤ 65536) (hg : g.Ok) (HF : ∀ w, Globs glT w → Calls Tryz.prog 6 #[.agg #[.bool p.g, .string (natS p.n), .int .i64 p.x, .bool q.g, .string (natS q.n), .int .i64 q.x, .int .i64 y, .int .i64 a, .int .i64 b], .agg #[.bool g.re.g, .string (natS g.re.n), .int .i64 g.re.x, .bool g.im.g, .string (natS g.im.n), .int .i64 g.im.x]] w fun e w' => e = .returned (.tuple #[.int .i64 m, .int .i64 n, .int .i64 k]) ∧ Below w.heap.size w w') (HR : ∀ w, Globs glT w → Calls Tryz.prog 11 #[.agg #[.bool p.g, .string (natS p.n), .int .i64 p.x, .bool q.g, .string (natS q.n), .int .i64 q.x, .int .i64 y, .int .i64 a, .int .i64 b], .agg #[.bool g.re.g, .string (natS g.re.n), .int .i64 g.re.x, .bool g.im.g, .string (natS g.im.n), .int .i64 g.im.x]] w fun e w' => e = .returned (.tuple #[.int .i64 m, .int .i64 n, .int .i64 k]) ∧ Below w.heap.size w w') (hout : ¬ (c ≥ 0 ∧ c ≤ a - 1 ∧ r ≥ 0 ∧ r ≤ b - 1)) (hG : Globs glT w) : Calls Tryz.prog 3 #[.agg #[.bool p.g, .string (natS p.n), .int .i64 p.x, .bool q.g, .string (natS q.n), .int .i64 q.x, .int .i64 y, .int .i64 a, .int .i64 b], .int .i64 c, .int .i64 r, .agg #[.bool g.re.g, .string (natS g.re.n), .int .i64 g.re.x, .bool g.im.g, .string (natS g.im.n), .int .i64 g.im.x]] w fun e w' => e = .returned (.bool true) ∧ Below w.heap.size w w' := by
  obtain ⟨b1, i1⟩ := bex (y ≥ -4096)
  obtain ⟨b2, i2⟩ := bex (y ≤ 4096)
  obtain ⟨b3, i3⟩ := bex (a ≥ 1)
  obtain ⟨b4, i4⟩ := bex (a ≤ 65536)
  obtain ⟨b5, i5⟩ := bex (b ≥ 1)
  obtain ⟨b6, i6⟩ := bex (b ≤ 65536)
  obtain ⟨b7, i7⟩ := bex (c ≥ 0)
  obtain ⟨b8, i8⟩ := bex (c ≤ a - 1)
  obtain ⟨b9, i9⟩ := bex (r ≥ 0)
  obtain ⟨b10, i10⟩ := bex (r ≤ b - 1)
  obtain ⟨b11, i11⟩ := bex (c < 0)
  obtain ⟨b12, i12⟩ := bex (c ≥ a)
  obtain ⟨b13, i13⟩ := bex (r < 0)
  obtain ⟨b14, i14⟩ := bex (r ≥ b)
  letI : Env := mkEnv glT [.bool p.g, .string (natS p.n), .int .i64 p.x, .bool q.g, .string (natS q.n), .int .i64 q.x, .int .i64 y, .int .i64 a, .int .i64 b, .int .i64 c, .int .i64 r, .bool g.re.g, .string (natS g.re.n), .int .i64 g.re.x, .bool g.im.g, .string (natS g.im.n), .int .i64 g.im.x, .int .i64 m, .int .i64 n, .int .i64 k, .int .i64 (a - 1), .int .i64 (b - 1)] rfl
  have hops : OpsT Tryz.prog (@Know.ops (ViewCells_a_out_k b1 b2 b3 b4 b5 b6 b7 b8 b9 b10 b11 b12 b13 b14)) := ⟨opt_geq_i rfl rfl i1,
    opt_leq_i rfl rfl i2,
    opt_geq_i rfl rfl i3,
    opt_leq_i rfl rfl i4,
    opt_geq_i rfl rfl i5,
    opt_leq_i rfl rfl i6,
    vopt_sub rfl rfl rfl rfl (by omega) ⟨by omega, by omega⟩,
    opt_geq_i rfl rfl i7,
    opt_leq_i rfl rfl i8,
    vopt_sub rfl rfl rfl rfl (by omega) ⟨by omega, by omega⟩,
    opt_geq_i rfl rfl i9,
    opt_leq_i rfl rfl i10,
    opt_lss_i rfl rfl i11,
    opt_geq_i rfl rfl i12,
    opt_lss_i rfl rfl i13,
    opt_geq_i rfl rfl i14,
    opt_eql_t rfl rfl rfl,
    opt_eql_t rfl rfl rfl,
    opt_eql_t rfl rfl rfl,
    trivial⟩
  have hcalls : CallsT Tryz.prog (@Know.calls (ViewCells_a_out_k b1 b2 b3 b4 b5 b6 b7 b8 b9 b10 b11 b12 b13 b14)) := ⟨callt rfl rfl fun w hG => GCheck_gs ⟨p, q⟩ ⟨hp, hq⟩ w hG,
    callt rfl rfl fun w hG => HF w hG,
    callt rfl rfl fun w hG => rMay24_ok p q y a b w hp hq hy ha hb,
    callt rfl rfl fun w hG => rMay6_ok g w hg,
    callt rfl rfl fun w hG => HR w hG,
    callt rfl rfl fun w hG => awake24_c w hG,
    trivial⟩
  have fin : ∀ v, @comes (ViewCells_a_out_k b1 b2 b3 b4 b5 b6 b7 b8 b9 b10 b11 b12 b13 b14) Tryz.prog glT 3000 ViewCells_a_out_f ViewCells_a_out_a = some v → ground v = true → Ending.returned (gval v) = .returned (.bool true) → Calls Tryz.prog 3 #[.agg #[.bool p.g, .string (natS p.n), .int .i64 p.x, .bool q.g, .string (natS q.n), .int .i64 q.x, .int .i64 y, .int .i64 a, .int .i64 b], .int .i64 c, .int .i64 r, .agg #[.bool g.re.g, .string (natS g.re.n), .int .i64 g.re.x, .bool g.im.g, .string (natS g.im.n), .int .i64 g.im.x]] w fun e w' => e = .returned (.bool true) ∧ Below w.heap.size w w' := fun v h1 h2 h3 => (@sym_ok _ (ViewCells_a_out_k b1 b2 b3 b4 b5 b6 b7 b8 b9 b10 b11 b12 b13 b14) _ (@KnowOk.of _ (ViewCells_a_out_k b1 b2 b3 b4 b5 b6 b7 b8 b9 b10 b11 b12 b13 b14) _ hops hcalls) (by kernel_rfl) _ _ _ _ h1 rfl h2 _ hG).mono fun e w' h => ⟨h.1.trans h3, h.2⟩
  clear hops hcalls
  cases b1 with
  | true =>
    have h1 : y ≥ -4096 := i1.1 rfl
    cases b2 with
    | true =>
      have h2 : y ≤ 4096 := i2.1 rfl
      cases b3 with
      | true =>
        have h3 : a ≥ 1 := i3.1 rfl
        cases b4 with
        | true =>
          have h4 : a ≤ 65536 := i4.1 rfl
          cases b5 with
          | true =>
            have h5 : b ≥ 1 := i5.1 rfl
            cases b6 with
            | true =>
              have h6 : b ≤ 65536 := i6.1 rfl
              cases b7 with
              | true =>
                have h7 : c ≥ 0 := i7.1 rfl
                cases b8 with
                | true =>
                  have h8 : c ≤ a - 1 := i8.1 rfl
                  cases b9 with
                  | true =>
                    have h9 : r ≥ 0 := i9.1 rfl
                    cases b10 with
                    | true =>
                      exact absurd (i10.1 rfl) (fun c => hout ⟨h7, h8, h9, c⟩)
                    | false =>
                      have h10 : ¬ (r ≤ b - 1) := fun c => Bool.false_ne_true (i10.2 c)
                      cases b11 with
                      | true =>
                        exact absurd (i11.1 rfl) ((by omega))
                      | false =>
                        have h11 : ¬ (c < 0) := fun c => Bool.false_ne_true (i11.2 c)
                        cases b12 with
                        | true =>
                          exact absurd (i12.1 rfl) ((by omega))
                        | false =>
                          have h12 : ¬ (c ≥ a) := fun c => Bool.false_ne_true (i12.2 c)
                          cases b13 with
                          | true =>
                            exact absurd (i13.1 rfl) ((by omega))
                          | false =>
                            have h13 : ¬ (r < 0) := fun c => Bool.false_ne_true (i13.2 c)
                            cases b14 with
                            | true =>
                              have h14 : r ≥ b := i14.1 rfl
                              exact fin _ (ViewCells_a_out_r1) rfl rfl
                            | false =>
                              exact absurd (i14.2 ((by omega))) Bool.false_ne_true
                  | false =>
                    have h9 : ¬ (r ≥ 0) := fun c => Bool.false_ne_true (i9.2 c)
                    cases b11 with
                    | true =>
                      exact absurd (i11.1 rfl) ((by omega))
                    | false =>
                      have h11 : ¬ (c < 0) := fun c => Bool.false_ne_true (i11.2 c)
                      cases b12 with
                      | true =>
                        exact absurd (i12.1 rfl) ((by omega))
                      | false =>
                        have h12 : ¬ (c ≥ a) := fun c => Bool.false_ne_true (i12.2 c)
                        cases b13 with
                        | true =>
                          have h13 : r < 0 := i13.1 rfl
                          exact fin _ (ViewCells_a_out_r2 b10 b14) rfl rfl
                        | false =>
                          exact absurd (i13.2 ((by omega))) Bool.false_ne_true
                | false =>
                  have h8 : ¬ (c ≤ a - 1) := fun c => Bool.false_ne_true (i8.2 c)
                  cases b11 with
                  | true =>
                    exact absurd (i11.1 rfl) ((by omega))
                  | false =>
                    have h11 : ¬ (c < 0) := fun c => Bool.false_ne_true (i11.2 c)
                    cases b12 with
                    | true =>
                      have h12 : c ≥ a := i12.1 rfl
                      exact fin _ (ViewCells_a_out_r3 b9 b10 b13 b14) rfl rfl
                    | false =>
                      exact absurd (i12.2 ((by omega))) Bool.false_ne_true
              | false =>
                have h7 : ¬ (c ≥ 0) := fun c => Bool.false_ne_true (i7.2 c)
                cases b11 with
                | true =>
                  have h11 : c < 0 := i11.1 rfl
                  exact fin _ (ViewCells_a_out_r4 b8 b9 b10 b12 b13 b14) rfl rfl
                | false =>
                  exact absurd (i11.2 ((by omega))) Bool.false_ne_true
            | false =>
              exact absurd (i6.2 ((by omega))) Bool.false_ne_true
          | false =>
            exact absurd (i5.2 ((by omega))) Bool.false_ne_true
        | false =>
          exact absurd (i4.2 ((by omega))) Bool.false_ne_true
      | false =>
        exact absurd (i3.2 ((by omega))) Bool.false_ne_true
    | false =>
      exact absurd (i2.2 ((by omega))) Bool.false_ne_true
  | false =>
    exact absurd (i1.2 ((by omega))) Bool.false_ne_true
@[reducible] def ViewCells_c_out_f : FuncId := 3
@[reducible] def ViewCells_c_out_a : List AV := [.agg [.sym 0, .sym 1, .sym 2, .sym 3, .sym 4, .sym 5, .sym 6, .sym 7, .sym 8], .sym 9, .sym 10, .agg [.sym 11, .sym 12, .sym 13, .sym 14, .sym 15, .sym 16]]
@[reducible] noncomputable def ViewCells_c_out_k (b1 b2 b3 b4 b5 b6 b7 b8 b9 b10 b11 b12 b13 b14 : Bool) : Know := ⟨[([0, 16, 3], [.sym 6, .lit (.int .i64 (-4096))], .lit (.bool b1)),
  ([0, 14, 3], [.sym 6, .lit (.int .i64 4096)], .lit (.bool b2)),
  ([0, 16, 3], [.sym 7, .lit (.int .i64 1)], .lit (.bool b3)),
  ([0, 14, 3], [.sym 7, .lit (.int .i64 65536)], .lit (.bool b4)),
  ([0, 16, 3], [.sym 8, .lit (.int .i64 1)], .lit (.bool b5)),
  ([0, 14, 3], [.sym 8, .lit (.int .i64 65536)], .lit (.bool b6)),
  ([0, 1, 3], [.sym 7, .lit (.int .i64 1)], .sym 17),
  ([0, 16, 3], [.sym 9, .lit (.int .i64 0)], .lit (.bool b7)),
  ([0, 14, 3], [.sym 9, .sym 17], .lit (.bool b8)),
  ([0, 1, 3], [.sym 8, .lit (.int .i64 1)], .sym 18),
  ([0, 16, 3], [.sym 10, .lit (.int .i64 0)], .lit (.bool b9)),
  ([0, 14, 3], [.sym 10, .sym 18], .lit (.bool b10)),
  ([0, 13, 3], [.sym 9, .lit (.int .i64 0)], .lit (.bool b11)),
  ([0, 16, 3], [.sym 9, .sym 7], .lit (.bool b12)),
  ([0, 13, 3], [.sym 10, .lit (.int .i64 0)], .lit (.bool b13)),
  ([0, 16, 3], [.sym 10, .sym 8], .lit (.bool b14))],
  [(19, [.agg [.sym 0, .sym 1, .sym 2, .sym 3, .sym 4, .sym 5]], .lit (.int .i64 0)),
  (6, [.agg [.sym 0, .sym 1, .sym 2, .sym 3, .sym 4, .sym 5, .sym 6, .sym 7, .sym 8], .agg [.sym 11, .sym 12, .sym 13, .sym 14, .sym 15, .sym 16]], .lit (.tuple #[.int .i64 0, .int .i64 0, .int .i64 2])),
  (7, [.agg [.sym 0, .sym 1, .sym 2, .sym 3, .sym 4, .sym 5, .sym 6, .sym 7, .sym 8]], .lit (.bool true)),
  (10, [.agg [.sym 11, .sym 12, .sym 13, .sym 14, .sym 15, .sym 16]], .lit (.bool false)),
  (8, [], .lit (.bool true))]⟩
theorem ViewCells_c_out_r1 : @comes (ViewCells_c_out_k true true true true true true true true true false false false false true) Tryz.prog glT 3000 ViewCells_c_out_f ViewCells_c_out_a = some (.lit (.bool true)) := by kernel_rfl
theorem ViewCells_c_out_r2 (b10 b14 : Bool) : @comes (ViewCells_c_out_k true true true true true true true true false b10 false false true b14) Tryz.prog glT 3000 ViewCells_c_out_f ViewCells_c_out_a = some (.lit (.bool true)) := by kernel_rfl
theorem ViewCells_c_out_r3 (b9 b10 b13 b14 : Bool) : @comes (ViewCells_c_out_k true true true true true true true false b9 b10 false true b13 b14) Tryz.prog glT 3000 ViewCells_c_out_f ViewCells_c_out_a = some (.lit (.bool true)) := by kernel_rfl
theorem ViewCells_c_out_r4 (b8 b9 b10 b12 b13 b14 : Bool) : @comes (ViewCells_c_out_k true true true true true true false b8 b9 b10 true b12 b13 b14) Tryz.prog glT 3000 ViewCells_c_out_f ViewCells_c_out_a = some (.lit (.bool true)) := by kernel_rfl
set_option maxRecDepth 100000 in
set_option maxHeartbeats 4000000 in
theorem ViewCells_c_out (p q : Dy) (y a b c r : Int) (g : Gt) (w : World) (hp : p.Ok) (hq : q.Ok) (hy : -4096 ≤ y ∧ y ≤ 4096) (ha : 1 ≤ a ∧ a ≤ 65536) (hb : 1 ≤ b ∧ b ≤ 65536) (zg : g.Small) (hn : ¬ g.Ok) (HF : ∀ w, Globs glT w → Calls Tryz.prog 6 #[.agg #[.bool p.g, .string (natS p.n), .int .i64 p.x, .bool q.g, .string (natS q.n), .int .i64 q.x, .int .i64 y, .int .i64 a, .int .i64 b], .agg #[.bool g.re.g, .string g.re.s, .int .i64 g.re.x, .bool g.im.g, .string g.im.s, .int .i64 g.im.x]] w fun e w' => e = .returned (.tuple #[.int .i64 0, .int .i64 0, .int .i64 2]) ∧ Below w.heap.size w w') (hout : ¬ (c ≥ 0 ∧ c ≤ a - 1 ∧ r ≥ 0 ∧ r ≤ b - 1)) (hG : Globs glT w) : Calls Tryz.prog 3 #[.agg #[.bool p.g, .string (natS p.n), .int .i64 p.x, .bool q.g, .string (natS q.n), .int .i64 q.x, .int .i64 y, .int .i64 a, .int .i64 b], .int .i64 c, .int .i64 r, .agg #[.bool g.re.g, .string g.re.s, .int .i64 g.re.x, .bool g.im.g, .string g.im.s, .int .i64 g.im.x]] w fun e w' => e = .returned (.bool true) ∧ Below w.heap.size w w' := by
  obtain ⟨b1, i1⟩ := bex (y ≥ -4096)
  obtain ⟨b2, i2⟩ := bex (y ≤ 4096)
  obtain ⟨b3, i3⟩ := bex (a ≥ 1)
  obtain ⟨b4, i4⟩ := bex (a ≤ 65536)
  obtain ⟨b5, i5⟩ := bex (b ≥ 1)
  obtain ⟨b6, i6⟩ := bex (b ≤ 65536)
  obtain ⟨b7, i7⟩ := bex (c ≥ 0)
  obtain ⟨b8, i8⟩ := bex (c ≤ a - 1)
  obtain ⟨b9, i9⟩ := bex (r ≥ 0)
  obtain ⟨b10, i10⟩ := bex (r ≤ b - 1)
  obtain ⟨b11, i11⟩ := bex (c < 0)
  obtain ⟨b12, i12⟩ := bex (c ≥ a)
  obtain ⟨b13, i13⟩ := bex (r < 0)
  obtain ⟨b14, i14⟩ := bex (r ≥ b)
  letI : Env := mkEnv glT [.bool p.g, .string (natS p.n), .int .i64 p.x, .bool q.g, .string (natS q.n), .int .i64 q.x, .int .i64 y, .int .i64 a, .int .i64 b, .int .i64 c, .int .i64 r, .bool g.re.g, .string g.re.s, .int .i64 g.re.x, .bool g.im.g, .string g.im.s, .int .i64 g.im.x, .int .i64 (a - 1), .int .i64 (b - 1)] rfl
  have hops : OpsT Tryz.prog (@Know.ops (ViewCells_c_out_k b1 b2 b3 b4 b5 b6 b7 b8 b9 b10 b11 b12 b13 b14)) := ⟨opt_geq_i rfl rfl i1,
    opt_leq_i rfl rfl i2,
    opt_geq_i rfl rfl i3,
    opt_leq_i rfl rfl i4,
    opt_geq_i rfl rfl i5,
    opt_leq_i rfl rfl i6,
    vopt_sub rfl rfl rfl rfl (by omega) ⟨by omega, by omega⟩,
    opt_geq_i rfl rfl i7,
    opt_leq_i rfl rfl i8,
    vopt_sub rfl rfl rfl rfl (by omega) ⟨by omega, by omega⟩,
    opt_geq_i rfl rfl i9,
    opt_leq_i rfl rfl i10,
    opt_lss_i rfl rfl i11,
    opt_geq_i rfl rfl i12,
    opt_lss_i rfl rfl i13,
    opt_geq_i rfl rfl i14,
    trivial⟩
  have hcalls : CallsT Tryz.prog (@Know.calls (ViewCells_c_out_k b1 b2 b3 b4 b5 b6 b7 b8 b9 b10 b11 b12 b13 b14)) := ⟨callt rfl rfl fun w hG => GCheck_gs ⟨p, q⟩ ⟨hp, hq⟩ w hG,
    callt rfl rfl fun w hG => HF w hG,
    callt rfl rfl fun w hG => rMay24_ok p q y a b w hp hq hy ha hb,
    callt rfl rfl fun w hG => rGMay_no g w zg.1 zg.2 hn hG,
    callt rfl rfl fun w hG => awake24_c w hG,
    trivial⟩
  have fin : ∀ v, @comes (ViewCells_c_out_k b1 b2 b3 b4 b5 b6 b7 b8 b9 b10 b11 b12 b13 b14) Tryz.prog glT 3000 ViewCells_c_out_f ViewCells_c_out_a = some v → ground v = true → Ending.returned (gval v) = .returned (.bool true) → Calls Tryz.prog 3 #[.agg #[.bool p.g, .string (natS p.n), .int .i64 p.x, .bool q.g, .string (natS q.n), .int .i64 q.x, .int .i64 y, .int .i64 a, .int .i64 b], .int .i64 c, .int .i64 r, .agg #[.bool g.re.g, .string g.re.s, .int .i64 g.re.x, .bool g.im.g, .string g.im.s, .int .i64 g.im.x]] w fun e w' => e = .returned (.bool true) ∧ Below w.heap.size w w' := fun v h1 h2 h3 => (@sym_ok _ (ViewCells_c_out_k b1 b2 b3 b4 b5 b6 b7 b8 b9 b10 b11 b12 b13 b14) _ (@KnowOk.of _ (ViewCells_c_out_k b1 b2 b3 b4 b5 b6 b7 b8 b9 b10 b11 b12 b13 b14) _ hops hcalls) (by kernel_rfl) _ _ _ _ h1 rfl h2 _ hG).mono fun e w' h => ⟨h.1.trans h3, h.2⟩
  clear hops hcalls
  cases b1 with
  | true =>
    have h1 : y ≥ -4096 := i1.1 rfl
    cases b2 with
    | true =>
      have h2 : y ≤ 4096 := i2.1 rfl
      cases b3 with
      | true =>
        have h3 : a ≥ 1 := i3.1 rfl
        cases b4 with
        | true =>
          have h4 : a ≤ 65536 := i4.1 rfl
          cases b5 with
          | true =>
            have h5 : b ≥ 1 := i5.1 rfl
            cases b6 with
            | true =>
              have h6 : b ≤ 65536 := i6.1 rfl
              cases b7 with
              | true =>
                have h7 : c ≥ 0 := i7.1 rfl
                cases b8 with
                | true =>
                  have h8 : c ≤ a - 1 := i8.1 rfl
                  cases b9 with
                  | true =>
                    have h9 : r ≥ 0 := i9.1 rfl
                    cases b10 with
                    | true =>
                      exact absurd (i10.1 rfl) (fun c => hout ⟨h7, h8, h9, c⟩)
                    | false =>
                      have h10 : ¬ (r ≤ b - 1) := fun c => Bool.false_ne_true (i10.2 c)
                      cases b11 with
                      | true =>
                        exact absurd (i11.1 rfl) ((by omega))
                      | false =>
                        have h11 : ¬ (c < 0) := fun c => Bool.false_ne_true (i11.2 c)
                        cases b12 with
                        | true =>
                          exact absurd (i12.1 rfl) ((by omega))
                        | false =>
                          have h12 : ¬ (c ≥ a) := fun c => Bool.false_ne_true (i12.2 c)
                          cases b13 with
                          | true =>
                            exact absurd (i13.1 rfl) ((by omega))
                          | false =>
                            have h13 : ¬ (r < 0) := fun c => Bool.false_ne_true (i13.2 c)
                            cases b14 with
                            | true =>
                              have h14 : r ≥ b := i14.1 rfl
                              exact fin _ (ViewCells_c_out_r1) rfl rfl
                            | false =>
                              exact absurd (i14.2 ((by omega))) Bool.false_ne_true
                  | false =>
                    have h9 : ¬ (r ≥ 0) := fun c => Bool.false_ne_true (i9.2 c)
                    cases b11 with
                    | true =>
                      exact absurd (i11.1 rfl) ((by omega))
                    | false =>
                      have h11 : ¬ (c < 0) := fun c => Bool.false_ne_true (i11.2 c)
                      cases b12 with
                      | true =>
                        exact absurd (i12.1 rfl) ((by omega))
                      | false =>
                        have h12 : ¬ (c ≥ a) := fun c => Bool.false_ne_true (i12.2 c)
                        cases b13 with
                        | true =>
                          have h13 : r < 0 := i13.1 rfl
                          exact fin _ (ViewCells_c_out_r2 b10 b14) rfl rfl
                        | false =>
                          exact absurd (i13.2 ((by omega))) Bool.false_ne_true
                | false =>
                  have h8 : ¬ (c ≤ a - 1) := fun c => Bool.false_ne_true (i8.2 c)
                  cases b11 with
                  | true =>
                    exact absurd (i11.1 rfl) ((by omega))
                  | false =>
                    have h11 : ¬ (c < 0) := fun c => Bool.false_ne_true (i11.2 c)
                    cases b12 with
                    | true =>
                      have h12 : c ≥ a := i12.1 rfl
                      exact fin _ (ViewCells_c_out_r3 b9 b10 b13 b14) rfl rfl
                    | false =>
                      exact absurd (i12.2 ((by omega))) Bool.false_ne_true
              | false =>
                have h7 : ¬ (c ≥ 0) := fun c => Bool.false_ne_true (i7.2 c)
                cases b11 with
                | true =>
                  have h11 : c < 0 := i11.1 rfl
                  exact fin _ (ViewCells_c_out_r4 b8 b9 b10 b12 b13 b14) rfl rfl
                | false =>
                  exact absurd (i11.2 ((by omega))) Bool.false_ne_true
            | false =>
              exact absurd (i6.2 ((by omega))) Bool.false_ne_true
          | false =>
            exact absurd (i5.2 ((by omega))) Bool.false_ne_true
        | false =>
          exact absurd (i4.2 ((by omega))) Bool.false_ne_true
      | false =>
        exact absurd (i3.2 ((by omega))) Bool.false_ne_true
    | false =>
      exact absurd (i2.2 ((by omega))) Bool.false_ne_true
  | false =>
    exact absurd (i1.2 ((by omega))) Bool.false_ne_true
@[reducible] def ViewCells_b_f : FuncId := 3
@[reducible] def ViewCells_b_a : List AV := [.agg [.sym 0, .sym 1, .sym 2, .sym 3, .sym 4, .sym 5, .sym 6, .sym 7, .sym 8], .sym 9, .sym 10, .agg [.sym 11, .sym 12, .sym 13, .sym 14, .sym 15, .sym 16]]
@[reducible] noncomputable def ViewCells_b_k : Know := ⟨[],
  [(15, [.agg [.sym 0, .sym 1, .sym 2, .sym 3, .sym 4, .sym 5, .sym 6, .sym 7, .sym 8]], .lit (.int .i64 240)),
  (6, [.agg [.sym 0, .sym 1, .sym 2, .sym 3, .sym 4, .sym 5, .sym 6, .sym 7, .sym 8], .agg [.sym 11, .sym 12, .sym 13, .sym 14, .sym 15, .sym 16]], .lit (.tuple #[.int .i64 0, .int .i64 0, .int .i64 240])),
  (7, [.agg [.sym 0, .sym 1, .sym 2, .sym 3, .sym 4, .sym 5, .sym 6, .sym 7, .sym 8]], .lit (.bool false)),
  (8, [], .lit (.bool true))]⟩
theorem ViewCells_b_r1 : @comes ViewCells_b_k Tryz.prog glT 3000 ViewCells_b_f ViewCells_b_a = some (.lit (.bool true)) := by kernel_rfl
set_option maxRecDepth 100000 in
set_option maxHeartbeats 4000000 in
theorem ViewCells_b (p q : Dt) (y a b c r : Int) (g : Gt) (w : World) (hn : True) (HC : ∀ w, Globs glT w → Calls Tryz.prog 15 #[.agg #[.bool p.g, .string p.s, .int .i64 p.x, .bool q.g, .string q.s, .int .i64 q.x, .int .i64 y, .int .i64 a, .int .i64 b]] w fun e w' => e = .returned (.int .i64 240) ∧ Below w.heap.size w w') (HM : ∀ w, Globs glT w → Calls Tryz.prog 7 #[.agg #[.bool p.g, .string p.s, .int .i64 p.x, .bool q.g, .string q.s, .int .i64 q.x, .int .i64 y, .int .i64 a, .int .i64 b]] w fun e w' => e = .returned (.bool false) ∧ Below w.heap.size w w') (HF : ∀ w, Globs glT w → Calls Tryz.prog 6 #[.agg #[.bool p.g, .string p.s, .int .i64 p.x, .bool q.g, .string q.s, .int .i64 q.x, .int .i64 y, .int .i64 a, .int .i64 b], .agg #[.bool g.re.g, .string g.re.s, .int .i64 g.re.x, .bool g.im.g, .string g.im.s, .int .i64 g.im.x]] w fun e w' => e = .returned (.tuple #[.int .i64 0, .int .i64 0, .int .i64 240]) ∧ Below w.heap.size w w') (hG : Globs glT w) : Calls Tryz.prog 3 #[.agg #[.bool p.g, .string p.s, .int .i64 p.x, .bool q.g, .string q.s, .int .i64 q.x, .int .i64 y, .int .i64 a, .int .i64 b], .int .i64 c, .int .i64 r, .agg #[.bool g.re.g, .string g.re.s, .int .i64 g.re.x, .bool g.im.g, .string g.im.s, .int .i64 g.im.x]] w fun e w' => e = .returned (.bool true) ∧ Below w.heap.size w w' := by
  letI : Env := mkEnv glT [.bool p.g, .string p.s, .int .i64 p.x, .bool q.g, .string q.s, .int .i64 q.x, .int .i64 y, .int .i64 a, .int .i64 b, .int .i64 c, .int .i64 r, .bool g.re.g, .string g.re.s, .int .i64 g.re.x, .bool g.im.g, .string g.im.s, .int .i64 g.im.x] rfl
  have hops : OpsT Tryz.prog (@Know.ops ViewCells_b_k) := trivial
  have hcalls : CallsT Tryz.prog (@Know.calls ViewCells_b_k) := ⟨callt rfl rfl fun w hG => HC w hG,
    callt rfl rfl fun w hG => HF w hG,
    callt rfl rfl fun w hG => HM w hG,
    callt rfl rfl fun w hG => awake24_c w hG,
    trivial⟩
  have fin : ∀ v, @comes ViewCells_b_k Tryz.prog glT 3000 ViewCells_b_f ViewCells_b_a = some v → ground v = true → Ending.returned (gval v) = .returned (.bool true) → Calls Tryz.prog 3 #[.agg #[.bool p.g, .string p.s, .int .i64 p.x, .bool q.g, .string q.s, .int .i64 q.x, .int .i64 y, .int .i64 a, .int .i64 b], .int .i64 c, .int .i64 r, .agg #[.bool g.re.g, .string g.re.s, .int .i64 g.re.x, .bool g.im.g, .string g.im.s, .int .i64 g.im.x]] w fun e w' => e = .returned (.bool true) ∧ Below w.heap.size w w' := fun v h1 h2 h3 => (@sym_ok _ ViewCells_b_k _ (@KnowOk.of _ ViewCells_b_k _ hops hcalls) (by kernel_rfl) _ _ _ _ h1 rfl h2 _ hG).mono fun e w' h => ⟨h.1.trans h3, h.2⟩
  clear hops hcalls
  exact fin _ (ViewCells_b_r1) rfl rfl
end Go.Proofs.YtamcnnocjelcjaaGreatDoor
namespace Go.Proofs.YtamcnnocjelcjaaGreatDoor
open Go Go.RowKit Nt
structure SlB (w : World) (x : Dy) (n : Nat) (e : Int) (W : World) : Prop where
  low : Below w.heap.size w W
  b0 : Blk W w.heap.size 24 #[.bool x.g, .string (natS x.n), .int .i64 x.x]
  b1 : Blk W (w.heap.size + 1) 3 #[.int .i64 (n : Nat)]
  b2 : Blk W (w.heap.size + 1 + 1) 3 #[.int .i64 e]
  b3 : Blk W (w.heap.size + 1 + 1 + 1) 62 #[.func (.func 44) #[] #[.pointer (some ⟨w.heap.size, 0, none⟩), .pointer (some ⟨w.heap.size + 1 + 1, 0, none⟩)]]
theorem SlB.step {w : World} {x : Dy} {n : Nat} {e : Int} {W W' : World} (h : SlB w x n e W) (hb : Below W.heap.size W W') : SlB w x n e W' :=
  ⟨below_then h.low hb, Blk.below h.b0 hb (Blk.lt h.b0), Blk.below h.b1 hb (Blk.lt h.b1), Blk.below h.b2 hb (Blk.lt h.b2), Blk.below h.b3 hb (Blk.lt h.b3)⟩
theorem SlB.c0 {w : World} {x : Dy} {n : Nat} {e : Int} {W : World} (h : SlB w x n e W) : W.cell? ⟨w.heap.size, 0, none⟩ = some (.bool x.g) := (Blk.cell h.b0 0).trans rfl
theorem SlB.c1 {w : World} {x : Dy} {n : Nat} {e : Int} {W : World} (h : SlB w x n e W) : W.cell? ⟨w.heap.size, 1, none⟩ = some (.string (natS x.n)) := (Blk.cell h.b0 1).trans rfl
theorem SlB.c2 {w : World} {x : Dy} {n : Nat} {e : Int} {W : World} (h : SlB w x n e W) : W.cell? ⟨w.heap.size, 2, none⟩ = some (.int .i64 x.x) := (Blk.cell h.b0 2).trans rfl
theorem SlB.cn {w : World} {x : Dy} {n : Nat} {e : Int} {W : World} (h : SlB w x n e W) : W.cell? ⟨w.heap.size + 1, 0, none⟩ = some (.int .i64 (n : Nat)) := (Blk.cell h.b1 0).trans rfl
theorem SlB.ce {w : World} {x : Dy} {n : Nat} {e : Int} {W : World} (h : SlB w x n e W) : W.cell? ⟨w.heap.size + 1 + 1, 0, none⟩ = some (.int .i64 e) := (Blk.cell h.b2 0).trans rfl
theorem SlB.cf {w : World} {x : Dy} {n : Nat} {e : Int} {W : World} (h : SlB w x n e W) : W.cell? ⟨w.heap.size + 1 + 1 + 1, 0, none⟩ = some (.func (.func 44) #[] #[.pointer (some ⟨w.heap.size, 0, none⟩), .pointer (some ⟨w.heap.size + 1 + 1, 0, none⟩)]) := (Blk.cell h.b3 0).trans rfl
theorem SlB.upTo {w : World} {x : Dy} {n : Nat} {e : Int} {W : World} (h : SlB w x n e W) (k : Int) (hx : x.Ok) (hk : -10000000 ≤ k ∧ k ≤ 10000000) (he : -8000 ≤ e ∧ e ≤ 8000) :
    Calls Tryz.prog 44 #[.int .i64 k, .pointer (some ⟨w.heap.size, 0, none⟩), .pointer (some ⟨w.heap.size + 1 + 1, 0, none⟩)] W fun r w' => r = .returned (.bool (decide (cmpD x (hz k (e - 1)) ≤ 0))) ∧ Below W.heap.size W w' :=
  upTo_c x k e _ _ W hx hk he (Blk.lt h.b0) (Blk.lt h.b2) h.c0 h.c1 h.c2 h.ce
set_option maxRecDepth 100000 in
set_option maxHeartbeats 2000000 in
theorem mark_c {w : World} {x : Dy} {n : Nat} {e : Int} {W : World} (h : SlB w x n e W) (i : Nat) (hx : x.Ok) (hi : i < n) (hn : n ≤ 65536) (he : -8000 ≤ e ∧ e ≤ 8000) :
    Calls Tryz.prog 46 #[.int .i64 (i : Nat), .pointer (some ⟨w.heap.size + 1 + 1 + 1, 0, none⟩), .pointer (some ⟨w.heap.size + 1, 0, none⟩)] W fun r w' => r = .returned (.bool (decide (cmpD x (hz (2 * (i : Int) - (n : Int) + 2) (e - 1)) ≤ 0))) ∧ Below W.heap.size W w' := by
  have K := Lib.hid (h.upTo (2 * (i : Int) - (n : Int) + 2) hx (by omega) he)
  have c1 := h.cf
  have c2 := h.cn
  clear h
  generalize decide (cmpD x (hz (2 * (i : Int) - (n : Int) + 2) (e - 1)) ≤ 0) = R at *
  go_enter Tryz.func46, Tryz.ntmps46
  go_wp2_with (first | (go_at_call 44; go_loud (refine K.out.mono ?_; rintro ee w1 ⟨rfl, hb⟩)))
  go_ret
  exact ⟨rfl, hb⟩
theorem mark_iff {x : Dy} {n i : Nat} {e : Int} (hx : x.Ok) (hi : i < n) (hn : n ≤ 65536) (he : -4096 ≤ e ∧ e ≤ 4096) : cmpD x (hz (2 * (i : Int) - (n : Int) + 2) (e - 1)) ≤ 0 ↔ Upto (iv x) (hT e) n i := by
  rw [cmpV_le hx (hz_Ok _ _), iv_half (by omega) he]
  unfold Upto
  rw [show 2 * (i : Int) - (n : Int) + 2 = 2 * (i : Int) + 2 - (n : Int) by omega]
set_option maxRecDepth 100000 in
set_option maxHeartbeats 4000000 in
theorem Search_c {w : World} {x : Dy} {n : Nat} {e : Int} {W : World} (h : SlB w x n e W) (c : Nat) (hx : x.Ok) (hn : n ≤ 65536) (he : -4096 ≤ e ∧ e ≤ 4096) (hs : IsSlot (iv x) (hT e) n c) :
    Calls Tryz.prog 45 #[.int .i64 (n : Nat), .func (.func 46) #[] #[.pointer (some ⟨w.heap.size + 1 + 1 + 1, 0, none⟩), .pointer (some ⟨w.heap.size + 1, 0, none⟩)]] W fun r w' => r = .returned (.int .i64 (c : Nat)) ∧ Below W.heap.size W w' := by
  have HS := Lib.hid hs
  have HB := Lib.hid h
  have HX := Lib.hid hx
  have HE := Lib.hid he
  have hc0 : c ≤ n := Nat.le_of_lt hs.1
  clear hs h hx he
  go_enter Tryz.func45, Tryz.ntmps45
  go_wp2_with fail
  go_loopw [5, 6] (fun vi vj wr => ∃ i j : Nat, vi = .int .i64 (i : Nat) ∧ vj = .int .i64 (j : Nat) ∧ i ≤ c ∧ c ≤ j ∧ j ≤ n ∧ Below W.heap.size W wr) (fun vi vj _ => (intOf vj - intOf vi).toNat)
  case atStart => exact ⟨0, n, rfl, rfl, by omega, hc0, Nat.le_refl _, Below.refl _ _⟩
  case round =>
    obtain ⟨i, j, rfl, rfl, hi, hj, hjn, hb⟩ := hrel
    by_cases hij : i < j
    · obtain ⟨m, hm⟩ : ∃ m, m = (i + j) / 2 := ⟨_, rfl⟩
      have hm1 : i ≤ m := by omega
      have hm2 : m < j := by omega
      have K := mark_c (HB.out.step hb) m HX.out (by omega) hn (by have := HE.out; omega)
      have hiff := mark_iff HX.out (i := m) (n := n) (by omega) hn HE.out
      have hq : ((i : Int) + (j : Int)) / 2 = (m : Int) := by omega
      have hjl : i ≤ 65536 := by omega
      have hjm : j ≤ 65536 := by omega
      by_cases hu : Upto (iv x) (hT e) n m
      · rw [decide_eq_true (hiff.2 hu)] at K
        have hcm : c ≤ m := Nat.le_of_not_lt fun cc => HS.out.2.2 m cc hu
        have K1 := Lib.hid K
        have hmn : m ≤ n := by omega
        have HME := Lib.hid (show m - i < j - i by omega)
        clear K hiff hu hm
        go_wp2_with (first | (go_at_call 46; (with_reducible refine K1.out.mono ?_); rintro ee w1 ⟨rfl, hb2⟩; replace hb := below_chain hb hb2; clear hb2))
        go_roundw
        case rel => exact ⟨i, m, rfl, rfl, hi, hcm, hmn, hb⟩
        case measure => simp [intOf]; omega
      · rw [decide_eq_false (fun c => hu (hiff.1 c))] at K
        have hcm : m + 1 ≤ c := Nat.lt_of_not_le fun cc => hu (upto_mono (hT_pos e) cc HS.out.2.1)
        have K1 := Lib.hid K
        clear K hiff hu hm
        go_wp2_with (first | (go_at_call 46; (with_reducible refine K1.out.mono ?_); rintro ee w1 ⟨rfl, hb2⟩; replace hb := below_chain hb hb2; clear hb2))
        go_roundw
        case rel => exact ⟨m + 1, j, by go_num, rfl, hcm, hj, hjn, hb⟩
        case measure => simp [intOf]; omega
    · obtain rfl : i = c := by omega
      go_wp2_with fail
      go_ret
      exact ⟨rfl, hb⟩
end Go.Proofs.YtamcnnocjelcjaaGreatDoor
