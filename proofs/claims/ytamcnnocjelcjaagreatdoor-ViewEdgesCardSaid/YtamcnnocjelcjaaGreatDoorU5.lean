/- Texts put together: G1 G2 G3 V1 Aw24 V4 GBox VC1 VC2 VW VC3 VE1. -/
import Derived.Test.YtamcnnocjelcjaaGreatDoorU4
import Derived.Test.YtamcnnocjelcjaaGreatDoorU3
import Derived.Deep.RegionHeld3
set_option linter.unusedVariables false
set_option linter.unusedSimpArgs false
namespace Go.Proofs.YtamcnnocjelcjaaGreatDoor
open Go Go.RowKit Nt
structure Gs where
  re : Dy
  im : Dy
def Gs.v (a : Gs) : Value := .agg #[.bool a.re.g, .string (natS a.re.n), .int .i64 a.re.x, .bool a.im.g, .string (natS a.im.n), .int .i64 a.im.x]
def Gs.zero : Gs := ⟨Dy.zero, Dy.zero⟩
theorem Gs.zero_v : Gs.zero.v = .agg #[.bool false, .string ⟨#[]⟩, .int .i64 0, .bool false, .string ⟨#[]⟩, .int .i64 0] := by
  show Value.agg #[.bool false, .string (natS 0), .int .i64 0, .bool false, .string (natS 0), .int .i64 0] = _
  rw [natS_zero]
def Gs.Ok (a : Gs) : Prop := a.re.Ok ∧ a.im.Ok
theorem Gs.zero_Ok : Gs.zero.Ok := ⟨Or.inl rfl, Or.inl rfl⟩
structure Gt where
  re : Dt
  im : Dt
def Gt.v (a : Gt) : Value := .agg #[.bool a.re.g, .string a.re.s, .int .i64 a.re.x, .bool a.im.g, .string a.im.s, .int .i64 a.im.x]
def Dt.zero : Dt := ⟨false, ⟨#[]⟩, 0⟩
theorem Dt.zero_v : Dt.zero.v = .agg #[.bool false, .string ⟨#[]⟩, .int .i64 0] := rfl
theorem Dt.zero_Ok : Dt.zero.Ok := Or.inl ⟨rfl, rfl, rfl⟩
def Gt.zero : Gt := ⟨Dt.zero, Dt.zero⟩
theorem Gt.zero_v : Gt.zero.v = .agg #[.bool false, .string ⟨#[]⟩, .int .i64 0, .bool false, .string ⟨#[]⟩, .int .i64 0] := rfl
def Gt.Ok (a : Gt) : Prop := a.re.Ok ∧ a.im.Ok
def Gt.Small (a : Gt) : Prop := a.re.s.size ≤ 9223372036854775807 ∧ a.im.s.size ≤ 9223372036854775807
def Gs.t (a : Gs) : Gt := ⟨a.re.t, a.im.t⟩
theorem Gs.ok_t {a : Gs} (h : a.Ok) : a.t.Ok := ⟨Dy.ok_t h.1, Dy.ok_t h.2⟩
theorem Gt.gs {a : Gt} (h : a.Ok) : ∃ d : Gs, d.Ok ∧ a = d.t := by
  obtain ⟨r, i⟩ := a
  obtain ⟨x, h1, h2⟩ := Dt.dy h.1
  obtain ⟨y, h3, h4⟩ := Dt.dy h.2
  simp only at h2 h4
  exact ⟨⟨x, y⟩, ⟨h1, h3⟩, by rw [h2, h4]; rfl⟩
open Classical in
@[irreducible] noncomputable def gE (a : Gt) : Int := if a.Ok then 0 else 2
theorem gE_ok {a : Gt} (h : a.Ok) : gE a = 0 := by unfold gE; rw [if_pos h]
theorem gE_no {a : Gt} (h : ¬ a.Ok) : gE a = 2 := by unfold gE; rw [if_neg h]
theorem dE1 {t : Dt} : dE [t] = 0 ↔ t.Ok := by
  constructor
  · intro h
    by_cases hn : t.Ok
    · exact hn
    · rw [dE_no (List.mem_singleton.2 rfl) hn] at h; cases h
  · intro h
    exact dE_ok fun u hu => by rw [List.mem_singleton.1 hu]; exact h
theorem DCheck_dy (a : Dy) (ha : a.Ok) (w : World) : Calls Tryz.prog 40 #[.agg #[.bool a.g, .string (natS a.n), .int .i64 a.x]] w fun e w' => e = .returned (.int .i64 0) ∧ Below w.heap.size w w' := by
  have h := DCheck_c a.t w (by have := Dy.small ha; show (natS a.n).size ≤ _; omega)
  rwa [dE_ok (fun t ht => by rw [List.mem_singleton.1 ht]; exact Dy.ok_t ha)] at h
theorem eqG_run {g g' k k' : Bool} {s s' r r' : ByteArray} {x x' y y' : Int} {c : Bool} (h : c = true ↔ ((g = g' ∧ s = s' ∧ x = x') ∧ (k = k' ∧ r = r' ∧ y = y'))) (p q : Operand) (w : World) : (do eqGuard .eql 26 p q (.agg #[.bool g, .string s, .int .i64 x, .bool k, .string r, .int .i64 y]) (.agg #[.bool g', .string s', .int .i64 x', .bool k', .string r', .int .i64 y']); binOp .eql 26 (.agg #[.bool g, .string s, .int .i64 x, .bool k, .string r, .int .i64 y]) (.agg #[.bool g', .string s', .int .i64 x', .bool k', .string r', .int .i64 y'])).run Tryz.prog w = .ok (.bool c) w := by
  have hs : s.toList = s'.toList ↔ s = s' := ⟨str_inj, fun h => by rw [h]⟩
  have hr : r.toList = r'.toList ↔ r = r' := ⟨str_inj, fun h => by rw [h]⟩
  go_simp
  cases c with
  | true =>
    obtain ⟨⟨rfl, rfl, rfl⟩, rfl, rfl, rfl⟩ := h.1 rfl
    simp
  | false =>
    have hn : ¬ ((g = g' ∧ s = s' ∧ x = x') ∧ (k = k' ∧ r = r' ∧ y = y')) := fun e => Bool.false_ne_true (h.2 e)
    repeat' split
    all_goals first
      | rfl
      | exact absurd ⟨⟨by assumption, by assumption, by assumption⟩, by assumption, by assumption, by assumption⟩ hn
theorem neG_run {g g' k k' : Bool} {s s' r r' : ByteArray} {x x' y y' : Int} {c : Bool} (h : c = true ↔ ((g = g' ∧ s = s' ∧ x = x') ∧ (k = k' ∧ r = r' ∧ y = y'))) (p q : Operand) (w : World) : (do eqGuard .neq 26 p q (.agg #[.bool g, .string s, .int .i64 x, .bool k, .string r, .int .i64 y]) (.agg #[.bool g', .string s', .int .i64 x', .bool k', .string r', .int .i64 y']); binOp .neq 26 (.agg #[.bool g, .string s, .int .i64 x, .bool k, .string r, .int .i64 y]) (.agg #[.bool g', .string s', .int .i64 x', .bool k', .string r', .int .i64 y'])).run Tryz.prog w = .ok (.bool (!c)) w := by
  have hs : s.toList = s'.toList ↔ s = s' := ⟨str_inj, fun h => by rw [h]⟩
  have hr : r.toList = r'.toList ↔ r = r' := ⟨str_inj, fun h => by rw [h]⟩
  go_simp
  cases c with
  | true =>
    obtain ⟨⟨rfl, rfl, rfl⟩, rfl, rfl, rfl⟩ := h.1 rfl
    simp
  | false =>
    have hn : ¬ ((g = g' ∧ s = s' ∧ x = x') ∧ (k = k' ∧ r = r' ∧ y = y')) := fun e => Bool.false_ne_true (h.2 e)
    repeat' split
    all_goals first
      | rfl
      | exact absurd ⟨⟨by assumption, by assumption, by assumption⟩, by assumption, by assumption, by assumption⟩ hn
theorem Gs.ext_iff' {a b : Gs} : ((a.re.g = b.re.g ∧ natS a.re.n = natS b.re.n ∧ a.re.x = b.re.x) ∧ (a.im.g = b.im.g ∧ natS a.im.n = natS b.im.n ∧ a.im.x = b.im.x)) ↔ a = b := by
  rw [Dy.ext_iff', Dy.ext_iff']
  obtain ⟨r, i⟩ := a
  obtain ⟨r', i'⟩ := b
  simp
theorem Dt.ext_iff' {a b : Dt} : (a.g = b.g ∧ a.s = b.s ∧ a.x = b.x) ↔ a = b := by
  obtain ⟨g, n, x⟩ := a
  obtain ⟨g', n', x'⟩ := b
  simp
theorem Gt.ext_iff' {a b : Gt} : ((a.re.g = b.re.g ∧ a.re.s = b.re.s ∧ a.re.x = b.re.x) ∧ (a.im.g = b.im.g ∧ a.im.s = b.im.s ∧ a.im.x = b.im.x)) ↔ a = b := by
  rw [Dt.ext_iff', Dt.ext_iff']
  obtain ⟨r, i⟩ := a
  obtain ⟨r', i'⟩ := b
  simp
section
variable [Env]
theorem optG_neq_f {A B : AV} {a b : Gs} (ha : gval A = a.v) (hb : gval B = b.v) (h : a = b) : OpT Tryz.prog [0, 12, 26] [A, B] (.lit (.bool false)) :=
  opt_bin (op := .neq) rfl fun p q w => by rw [ha, hb]; exact neG_run (c := true) ⟨fun _ => Gs.ext_iff'.2 h, fun _ => rfl⟩ p q w
theorem optU_eql_t {A B : AV} {a b : Gt} (ha : gval A = a.v) (hb : gval B = b.v) (h : a = b) : OpT Tryz.prog [0, 11, 26] [A, B] (.lit (.bool true)) :=
  opt_bin (op := .eql) rfl fun p q w => by rw [ha, hb]; exact eqG_run (c := true) ⟨fun _ => Gt.ext_iff'.2 h, fun _ => rfl⟩ p q w
theorem optU_eql_f {A B : AV} {a b : Gt} (ha : gval A = a.v) (hb : gval B = b.v) (h : ¬ a = b) : OpT Tryz.prog [0, 11, 26] [A, B] (.lit (.bool false)) :=
  opt_bin (op := .eql) rfl fun p q w => by rw [ha, hb]; exact eqG_run (c := false) ⟨(fun c => by cases c), fun c => absurd (Gt.ext_iff'.1 c) h⟩ p q w
end
end Go.Proofs.YtamcnnocjelcjaaGreatDoor
namespace Go.Proofs.YtamcnnocjelcjaaGreatDoor
open Go Go.RowKit Nt
def All0 : List Int → Prop
  | [] => True
  | t :: l => t = 0 ∧ All0 l
instance All0.dec : ∀ l, Decidable (All0 l)
  | [] => .isTrue trivial
  | t :: l => @instDecidableAnd _ _ _ (All0.dec l)
@[irreducible] def erI (l : List Int) : Int := if All0 l then 0 else 4
@[irreducible] def erG (l : List Int) (d : Gs) : Gs := if All0 l then d else Gs.zero
theorem erI_ok {l : List Int} (h : All0 l) : erI l = 0 := by unfold erI; exact if_pos h
theorem erI_no {l : List Int} (h : ¬ All0 l) : erI l = 4 := by unfold erI; exact if_neg h
theorem erG_ok {l : List Int} {d : Gs} (h : All0 l) : erG l d = d := by unfold erG; exact if_pos h
theorem erG_no {l : List Int} {d : Gs} (h : ¬ All0 l) : erG l d = Gs.zero := by unfold erG; exact if_neg h
theorem erI_zero {l : List Int} : erI l = 0 ↔ All0 l := by
  by_cases h : All0 l
  · rw [erI_ok h]; simp [h]
  · rw [erI_no h]; simp [h]
theorem erG_Ok {l : List Int} {d : Gs} (h : d.Ok) : (erG l d).Ok := by
  by_cases c : All0 l
  · rw [erG_ok c]; exact h
  · rw [erG_no c]; exact Gs.zero_Ok
theorem mkE4 {n : Nat} {x : Int} (h : ¬ mkE n x = 0) : mkE n x = 4 := by
  by_cases c : mkOk3 n x
  · exact absurd (mkE_ok c) h
  · exact mkE_no c
theorem addE4 {a b : Dy} (h : ¬ addE a b = 0) : addE a b = 4 := by
  by_cases h0 : a.n = 0
  · exact absurd (add_zl h0).2 h
  · by_cases h1 : b.n = 0
    · exact absurd (add_zr h0 h1).2 h
    · by_cases h2 : a.x < b.x
      · rw [(add_lt h0 h1 h2).2, hiE_eq] at h ⊢; exact mkE4 h
      · rw [(add_ge h0 h1 h2).2, hiE_eq] at h ⊢; exact mkE4 h
def neG (a : Gs) : Gs := ⟨negD a.re, negD a.im⟩
theorem neG_Ok {a : Gs} (h : a.Ok) : (neG a).Ok := ⟨negD_Ok h.1, negD_Ok h.2⟩
def gaddL (a b : Gs) : List Int := [addE a.re b.re, addE a.im b.im]
def gaddD (a b : Gs) : Gs := erG (gaddL a b) ⟨addD a.re b.re, addD a.im b.im⟩
def gaddE (a b : Gs) : Int := erI (gaddL a b)
theorem gaddD_Ok {a b : Gs} (ha : a.Ok) (hb : b.Ok) : (gaddD a b).Ok := erG_Ok ⟨add_Ok ha.1 hb.1, add_Ok ha.2 hb.2⟩
end Go.Proofs.YtamcnnocjelcjaaGreatDoor
namespace Go.Proofs.YtamcnnocjelcjaaGreatDoor
open Go Go.RowKit Nt
@[reducible] noncomputable def GCheck_c_k1 : Know := ⟨[([0, 11, 26], [.agg [.sym 0, .sym 1, .sym 2, .sym 3, .sym 4, .sym 5], .lit (.agg #[.bool false, .string ⟨#[]⟩, .int .i64 0, .bool false, .string ⟨#[]⟩, .int .i64 0])], .lit (.bool true))],
  []⟩
theorem GCheck_c_r1 : @comes GCheck_c_k1 Tryz.prog glT 3000 19 [.agg [.sym 0, .sym 1, .sym 2, .sym 3, .sym 4, .sym 5]] = some (.lit (.int .i64 0)) := by kernel_rfl
@[reducible] noncomputable def GCheck_c_k2 : Know := ⟨[([0, 11, 26], [.agg [.sym 0, .sym 1, .sym 2, .sym 3, .sym 4, .sym 5], .lit (.agg #[.bool false, .string ⟨#[]⟩, .int .i64 0, .bool false, .string ⟨#[]⟩, .int .i64 0])], .lit (.bool false)),
  ([0, 12, 31], [.sym 6, .lit (.int .i64 0)], .lit (.bool false)),
  ([0, 12, 31], [.sym 7, .lit (.int .i64 0)], .lit (.bool false))],
  [(40, [.agg [.sym 0, .sym 1, .sym 2]], .sym 6),
  (40, [.agg [.sym 3, .sym 4, .sym 5]], .sym 7)]⟩
theorem GCheck_c_r2 : @comes GCheck_c_k2 Tryz.prog glT 3000 19 [.agg [.sym 0, .sym 1, .sym 2, .sym 3, .sym 4, .sym 5]] = some (.lit (.int .i64 0)) := by kernel_rfl
@[reducible] noncomputable def GCheck_c_k3 : Know := ⟨[([0, 11, 26], [.agg [.sym 0, .sym 1, .sym 2, .sym 3, .sym 4, .sym 5], .lit (.agg #[.bool false, .string ⟨#[]⟩, .int .i64 0, .bool false, .string ⟨#[]⟩, .int .i64 0])], .lit (.bool false)),
  ([0, 12, 31], [.sym 6, .lit (.int .i64 0)], .lit (.bool false)),
  ([0, 12, 31], [.sym 7, .lit (.int .i64 0)], .lit (.bool true))],
  [(40, [.agg [.sym 0, .sym 1, .sym 2]], .sym 6),
  (40, [.agg [.sym 3, .sym 4, .sym 5]], .sym 7)]⟩
theorem GCheck_c_r3 : @comes GCheck_c_k3 Tryz.prog glT 3000 19 [.agg [.sym 0, .sym 1, .sym 2, .sym 3, .sym 4, .sym 5]] = some (.lit (.int .i64 2)) := by kernel_rfl
@[reducible] noncomputable def GCheck_c_k4 : Know := ⟨[([0, 11, 26], [.agg [.sym 0, .sym 1, .sym 2, .sym 3, .sym 4, .sym 5], .lit (.agg #[.bool false, .string ⟨#[]⟩, .int .i64 0, .bool false, .string ⟨#[]⟩, .int .i64 0])], .lit (.bool false)),
  ([0, 12, 31], [.sym 6, .lit (.int .i64 0)], .lit (.bool true))],
  [(40, [.agg [.sym 0, .sym 1, .sym 2]], .sym 6)]⟩
theorem GCheck_c_r4 : @comes GCheck_c_k4 Tryz.prog glT 3000 19 [.agg [.sym 0, .sym 1, .sym 2, .sym 3, .sym 4, .sym 5]] = some (.lit (.int .i64 2)) := by kernel_rfl
set_option maxRecDepth 100000 in
theorem GCheck_c (a : Gt) (w : World) (hre : a.re.s.size ≤ 9223372036854775807) (him : a.im.s.size ≤ 9223372036854775807) (hG : Globs glT w) : Calls Tryz.prog 19 #[.agg #[.bool a.re.g, .string a.re.s, .int .i64 a.re.x, .bool a.im.g, .string a.im.s, .int .i64 a.im.x]] w fun e w' => e = .returned (.int .i64 (gE a)) ∧ Below w.heap.size w w' := by
  by_cases h1 : a = Gt.zero
  · letI : Env := mkEnv glT [.bool a.re.g, .string a.re.s, .int .i64 a.re.x, .bool a.im.g, .string a.im.s, .int .i64 a.im.x] rfl
    have hops : OpsT Tryz.prog (@Know.ops GCheck_c_k1) := ⟨optU_eql_t (a := a) (b := Gt.zero) rfl Gt.zero_v.symm h1, trivial⟩
    have hcalls : CallsT Tryz.prog (@Know.calls GCheck_c_k1) := trivial
    exact (@sym_ok _ GCheck_c_k1 _ (@KnowOk.of _ GCheck_c_k1 _ hops hcalls) (by kernel_rfl) _ _ _ _ GCheck_c_r1 rfl rfl _ hG).mono fun e w' h => ⟨h.1.trans (show Ending.returned (.int .i64 0) = .returned (.int .i64 (gE a)) from by rw [gE_ok (show a.Ok from h1 ▸ ⟨Dt.zero_Ok, Dt.zero_Ok⟩)]), h.2⟩
  · by_cases h2 : dE [a.re] = 0
    · by_cases h3 : dE [a.im] = 0
      · letI : Env := mkEnv glT [.bool a.re.g, .string a.re.s, .int .i64 a.re.x, .bool a.im.g, .string a.im.s, .int .i64 a.im.x, .int .i64 (dE [a.re]), .int .i64 (dE [a.im])] rfl
        have hops : OpsT Tryz.prog (@Know.ops GCheck_c_k2) := ⟨optU_eql_f (a := a) (b := Gt.zero) rfl Gt.zero_v.symm h1, opt_neq_f rfl rfl h2, opt_neq_f rfl rfl h3, trivial⟩
        have hcalls : CallsT Tryz.prog (@Know.calls GCheck_c_k2) := ⟨callt rfl rfl fun w hG => DCheck_c a.re w hre, callt rfl rfl fun w hG => DCheck_c a.im w him, trivial⟩
        exact (@sym_ok _ GCheck_c_k2 _ (@KnowOk.of _ GCheck_c_k2 _ hops hcalls) (by kernel_rfl) _ _ _ _ GCheck_c_r2 rfl rfl _ hG).mono fun e w' h => ⟨h.1.trans (show Ending.returned (.int .i64 0) = .returned (.int .i64 (gE a)) from by rw [gE_ok ⟨dE1.1 h2, dE1.1 h3⟩]), h.2⟩
      · letI : Env := mkEnv glT [.bool a.re.g, .string a.re.s, .int .i64 a.re.x, .bool a.im.g, .string a.im.s, .int .i64 a.im.x, .int .i64 (dE [a.re]), .int .i64 (dE [a.im])] rfl
        have hops : OpsT Tryz.prog (@Know.ops GCheck_c_k3) := ⟨optU_eql_f (a := a) (b := Gt.zero) rfl Gt.zero_v.symm h1, opt_neq_f rfl rfl h2, opt_neq_t rfl rfl h3, trivial⟩
        have hcalls : CallsT Tryz.prog (@Know.calls GCheck_c_k3) := ⟨callt rfl rfl fun w hG => DCheck_c a.re w hre, callt rfl rfl fun w hG => DCheck_c a.im w him, trivial⟩
        exact (@sym_ok _ GCheck_c_k3 _ (@KnowOk.of _ GCheck_c_k3 _ hops hcalls) (by kernel_rfl) _ _ _ _ GCheck_c_r3 rfl rfl _ hG).mono fun e w' h => ⟨h.1.trans (show Ending.returned (.int .i64 2) = .returned (.int .i64 (gE a)) from by rw [gE_no (fun c => h3 (dE1.2 c.2))]), h.2⟩
    · letI : Env := mkEnv glT [.bool a.re.g, .string a.re.s, .int .i64 a.re.x, .bool a.im.g, .string a.im.s, .int .i64 a.im.x, .int .i64 (dE [a.re])] rfl
      have hops : OpsT Tryz.prog (@Know.ops GCheck_c_k4) := ⟨optU_eql_f (a := a) (b := Gt.zero) rfl Gt.zero_v.symm h1, opt_neq_t rfl rfl h2, trivial⟩
      have hcalls : CallsT Tryz.prog (@Know.calls GCheck_c_k4) := ⟨callt rfl rfl fun w hG => DCheck_c a.re w hre, trivial⟩
      exact (@sym_ok _ GCheck_c_k4 _ (@KnowOk.of _ GCheck_c_k4 _ hops hcalls) (by kernel_rfl) _ _ _ _ GCheck_c_r4 rfl rfl _ hG).mono fun e w' h => ⟨h.1.trans (show Ending.returned (.int .i64 2) = .returned (.int .i64 (gE a)) from by rw [gE_no (fun c => h2 (dE1.2 c.1))]), h.2⟩
theorem GCheck_gs (a : Gs) (ha : a.Ok) (w : World) (hG : Globs glT w) : Calls Tryz.prog 19 #[.agg #[.bool a.re.g, .string (natS a.re.n), .int .i64 a.re.x, .bool a.im.g, .string (natS a.im.n), .int .i64 a.im.x]] w fun e w' => e = .returned (.int .i64 0) ∧ Below w.heap.size w w' := by
  have h := GCheck_c a.t w (by have := Dy.small ha.1; show (natS a.re.n).size ≤ _; omega) (by have := Dy.small ha.2; show (natS a.im.n).size ≤ _; omega) hG
  rwa [gE_ok (Gs.ok_t ha)] at h
theorem GCheck_no (a : Gt) (hs : a.Small) (hn : ¬ a.Ok) (w : World) (hG : Globs glT w) : Calls Tryz.prog 19 #[.agg #[.bool a.re.g, .string a.re.s, .int .i64 a.re.x, .bool a.im.g, .string a.im.s, .int .i64 a.im.x]] w fun e w' => e = .returned (.int .i64 2) ∧ Below w.heap.size w w' := by
  have h := GCheck_c a w hs.1 hs.2 hG
  rwa [gE_no hn] at h
end Go.Proofs.YtamcnnocjelcjaaGreatDoor
namespace Go.Proofs.YtamcnnocjelcjaaGreatDoor
open Go Go.RowKit Nt
@[irreducible] def pw (x : Int) : Dy := mkD false 1 x
theorem pw_Ok (x : Int) : (pw x).Ok := by unfold pw; exact mkD_Ok _ _ _
theorem mkOk_pw {x : Int} (h1 : -100000 ≤ x) (h2 : x ≤ 100000) : mkOk3 1 x := by
  have h3 : odN 1 = 1 := odN_odd (by decide)
  have h4 : lowN 1 = 0 := lowN_odd (by decide)
  refine Or.inr ⟨?_, ?_, ?_⟩
  · rw [h3]; exact Nat.le_trans (nd_le (k := 1) (by omega) (by decide)) (by decide)
  · rw [h4]; omega
  · rw [h4]; omega
theorem pw_two (x : Int) : mkD false 2 (x - 1) = pw x ∧ mkE 2 (x - 1) = mkE 1 x := by
  have h := mkD_shift false 1 1 x
  unfold pw
  exact h
theorem pw_E {x : Int} (h1 : -100000 ≤ x) (h2 : x ≤ 100000) : mkE 1 x = 0 := mkE_ok (mkOk_pw h1 h2)
theorem DOf_pw2 (e : Int) (he : -90000 ≤ e ∧ e ≤ 90000) (w : World) : Calls Tryz.prog 67 #[.int .i64 2, .int .i64 (e - 1)] w fun e' w' => e' = .returned (.tuple #[.agg #[.bool (pw e).g, .string (natS (pw e).n), .int .i64 (pw e).x], .int .i64 0]) ∧ Below w.heap.size w w' := by
  have h := DOf_c 2 (e - 1) w (by omega) (by omega)
  unfold MkPost at h
  rw [show decide ((2 : Int) < 0) = false from rfl, show (2 : Int).natAbs = 2 from rfl, (pw_two e).1, (pw_two e).2, pw_E (by omega) (by omega)] at h
  exact h
section
variable [Env]
theorem vopt_sub {P : Program} {t : TypeId} {a b r : AV} {x y z : Int} (ha : gval a = .int .i64 x) (hb : gval b = .int .i64 y) (hr : ground r = true) (hv : gval r = .int .i64 z) (h : x - y = z) (h1 : -9223372036854775808 ≤ z ∧ z ≤ 9223372036854775807) : OpT P [0, 1, t] [a, b] r :=
  opt_int (op := .sub) ha hb hr hv fun w => by
    have : IntKind.i64.wrap (x - y) = z := by rw [h]; exact IntWalk.i64_in _ h1
    simp [binOp, Op.intArith, this]
theorem vopt_mul {P : Program} {t : TypeId} {a b r : AV} {x y z : Int} (ha : gval a = .int .i64 x) (hb : gval b = .int .i64 y) (hr : ground r = true) (hv : gval r = .int .i64 z) (h : x * y = z) (h1 : -9223372036854775808 ≤ z ∧ z ≤ 9223372036854775807) : OpT P [0, 2, t] [a, b] r :=
  opt_int (op := .mul) ha hb hr hv fun w => by
    have : IntKind.i64.wrap (x * y) = z := by rw [h]; exact IntWalk.i64_in _ h1
    simp [binOp, Op.intArith, this]
end
@[reducible] def halves_2_f : FuncId := 39
@[reducible] def halves_2_a : List AV := [.lit (.int .i64 2), .sym 0]
@[reducible] noncomputable def halves_2_k : Know := ⟨[([0, 1, 3], [.sym 0, .lit (.int .i64 1)], .sym 1)],
  [(67, [.lit (.int .i64 2), .sym 1], .tup [.agg [.sym 2, .sym 3, .sym 4], .lit (.int .i64 0)])]⟩
theorem halves_2_r1 : @comes halves_2_k Tryz.prog glT 3000 halves_2_f halves_2_a = some (.agg [.sym 2, .sym 3, .sym 4]) := by kernel_rfl
set_option maxRecDepth 100000 in
set_option maxHeartbeats 4000000 in
theorem halves_2 (y : Int) (w : World) (he : -9000 ≤ y ∧ y ≤ 9000) (hG : Globs glT w) : Calls Tryz.prog 39 #[.int .i64 2, .int .i64 y] w fun e w' => e = .returned ((pw y).v) ∧ Below w.heap.size w w' := by
  letI : Env := mkEnv glT [.int .i64 y, .int .i64 (y - 1), .bool (pw y).g, .string (natS (pw y).n), .int .i64 (pw y).x] rfl
  have hops : OpsT Tryz.prog (@Know.ops halves_2_k) := ⟨vopt_sub rfl rfl rfl rfl rfl ⟨by omega, by omega⟩,
    trivial⟩
  have hcalls : CallsT Tryz.prog (@Know.calls halves_2_k) := ⟨callt rfl rfl fun w hG => DOf_pw2 y ⟨by omega, by omega⟩ w,
    trivial⟩
  have fin : ∀ v, @comes halves_2_k Tryz.prog glT 3000 halves_2_f halves_2_a = some v → ground v = true → Ending.returned (gval v) = .returned ((pw y).v) → Calls Tryz.prog 39 #[.int .i64 2, .int .i64 y] w fun e w' => e = .returned ((pw y).v) ∧ Below w.heap.size w w' := fun v h1 h2 h3 => (@sym_ok _ halves_2_k _ (@KnowOk.of _ halves_2_k _ hops hcalls) (by kernel_rfl) _ _ _ _ h1 rfl h2 _ hG).mono fun e w' h => ⟨h.1.trans h3, h.2⟩
  clear hops hcalls
  exact fin _ (halves_2_r1) rfl rfl
@[reducible] def VRight_ok_f : FuncId := 32
@[reducible] def VRight_ok_a : List AV := [.agg [.sym 0, .sym 1, .sym 2, .sym 3, .sym 4, .sym 5, .sym 6]]
@[reducible] noncomputable def VRight_ok_k (b1 b2 : Bool) : Know := ⟨[([0, 16, 3], [.sym 6, .lit (.int .i64 (-4096))], .lit (.bool b1)),
  ([0, 14, 3], [.sym 6, .lit (.int .i64 4096)], .lit (.bool b2))],
  [(40, [.agg [.sym 0, .sym 1, .sym 2]], .lit (.int .i64 0)),
  (40, [.agg [.sym 3, .sym 4, .sym 5]], .lit (.int .i64 0))]⟩
theorem VRight_ok_r1 : @comes (VRight_ok_k true true) Tryz.prog glT 3000 VRight_ok_f VRight_ok_a = some (.lit (.int .i64 0)) := by kernel_rfl
set_option maxRecDepth 100000 in
set_option maxHeartbeats 4000000 in
theorem VRight_ok (l m : Dy) (y : Int) (w : World) (hl : l.Ok) (hm : m.Ok) (he : -4096 ≤ y ∧ y ≤ 4096) (hG : Globs glT w) : Calls Tryz.prog 32 #[.agg #[.bool l.g, .string (natS l.n), .int .i64 l.x, .bool m.g, .string (natS m.n), .int .i64 m.x, .int .i64 y]] w fun e w' => e = .returned (.int .i64 0) ∧ Below w.heap.size w w' := by
  obtain ⟨b1, i1⟩ := bex (y ≥ -4096)
  obtain ⟨b2, i2⟩ := bex (y ≤ 4096)
  letI : Env := mkEnv glT [.bool l.g, .string (natS l.n), .int .i64 l.x, .bool m.g, .string (natS m.n), .int .i64 m.x, .int .i64 y] rfl
  have hops : OpsT Tryz.prog (@Know.ops (VRight_ok_k b1 b2)) := ⟨opt_geq_i rfl rfl i1,
    opt_leq_i rfl rfl i2,
    trivial⟩
  have hcalls : CallsT Tryz.prog (@Know.calls (VRight_ok_k b1 b2)) := ⟨callt rfl rfl fun w hG => DCheck_dy l hl w,
    callt rfl rfl fun w hG => DCheck_dy m hm w,
    trivial⟩
  have fin : ∀ v, @comes (VRight_ok_k b1 b2) Tryz.prog glT 3000 VRight_ok_f VRight_ok_a = some v → ground v = true → Ending.returned (gval v) = .returned (.int .i64 0) → Calls Tryz.prog 32 #[.agg #[.bool l.g, .string (natS l.n), .int .i64 l.x, .bool m.g, .string (natS m.n), .int .i64 m.x, .int .i64 y]] w fun e w' => e = .returned (.int .i64 0) ∧ Below w.heap.size w w' := fun v h1 h2 h3 => (@sym_ok _ (VRight_ok_k b1 b2) _ (@KnowOk.of _ (VRight_ok_k b1 b2) _ hops hcalls) (by kernel_rfl) _ _ _ _ h1 rfl h2 _ hG).mono fun e w' h => ⟨h.1.trans h3, h.2⟩
  clear hops hcalls
  cases b1 with
  | true =>
    have h1 : y ≥ -4096 := i1.1 rfl
    cases b2 with
    | true =>
      have h2 : y ≤ 4096 := i2.1 rfl
      exact fin _ (VRight_ok_r1) rfl rfl
    | false =>
      exact absurd (i2.2 ((by omega))) Bool.false_ne_true
  | false =>
    exact absurd (i1.2 ((by omega))) Bool.false_ne_true
end Go.Proofs.YtamcnnocjelcjaaGreatDoor
namespace Go.Proofs.YtamcnnocjelcjaaGreatDoor
open Go Go.RowKit
set_option maxRecDepth 100000 in
theorem awake24_says : saysG Tryz.prog glT 5000 8 [] true = true := by kernel_rfl
theorem awake24_c (w : World) (hg : Globs glT w) : Calls Tryz.prog 8 #[] w fun e w' => e = .returned (.bool true) ∧ Below w.heap.size w w' := closed_with (by kernel_rfl) awake24_says hg
end Go.Proofs.YtamcnnocjelcjaaGreatDoor
namespace Go.Proofs.YtamcnnocjelcjaaGreatDoor
open Go Go.RowKit Nt
set_option linter.unusedSectionVars false
theorem iv_addz {a b : Dy} (ha : a.Ok) (hb : b.Ok) (h : addE a b = 0) : iv (addD a b) = iv a + iv b := by
  have e := add_iv ha hb
  rw [e.2] at h
  rw [e.1, mk_iv h]
@[irreducible] def hz (z x : Int) : Dy := mkD (decide (z < 0)) z.natAbs x
theorem hz_Ok (z x : Int) : (hz z x).Ok := by unfold hz; exact mkD_Ok _ _ _
theorem mkOk_z {z x : Int} (hz : -10000000 ≤ z ∧ z ≤ 10000000) (h1 : -90000 ≤ x) (h2 : x ≤ 90000) : mkOk3 z.natAbs x := by
  by_cases h0 : z.natAbs = 0
  · rw [h0]; exact Or.inl rfl
  · have h3 := odN_le z.natAbs
    have h6 : lowN z.natAbs ≤ 64 := by
      have h7 := (odN_spec h0).2
      have h8 := odN_pos h0
      rcases Nat.lt_or_ge (lowN z.natAbs) 65 with h | h
      · omega
      · have h9 : 2 ^ 65 ≤ 2 ^ lowN z.natAbs := Nat.pow_le_pow_right (by decide) h
        have h10 : 1 * 2 ^ lowN z.natAbs ≤ odN z.natAbs * 2 ^ lowN z.natAbs := Nat.mul_le_mul_right _ (Nat.pos_of_ne_zero h8)
        omega
    have h5 : nd 256 (odN z.natAbs) ≤ 16384 := Nat.le_trans (nd_le (k := 8) (by omega) (by have : (256 : Nat) ^ 8 = 18446744073709551616 := by decide
                                                                                           omega)) (by decide)
    exact Or.inr ⟨h5, by omega, by omega⟩
theorem iv_hz {z x : Int} (h : -10000000 ≤ z ∧ z ≤ 10000000) (h1 : -90000 ≤ x) (h2 : x ≤ 90000) : iv (hz z x) = z * ((2 ^ (x + (EE : Int)).toNat : Nat) : Int) := by
  have k := mk_toZ (decide (z < 0)) z.natAbs x EE (by have := EE_eq; omega)
  have e : mkZE (sgnd (decide (z < 0)) (z.natAbs * 2 ^ (x + (EE : Int)).toNat)) EE = 0 := k.2.symm.trans (mkE_ok (mkOk_z h h1 h2))
  unfold hz
  rw [k.1, mk_iv e]
  unfold sgnd
  by_cases hn : z < 0
  · rw [decide_eq_true hn, if_pos rfl, Int.natCast_mul, show ((z.natAbs : Nat) : Int) = -z by omega, Int.neg_mul, Int.neg_neg]
  · rw [decide_eq_false hn, if_neg (by simp), Int.natCast_mul, show ((z.natAbs : Nat) : Int) = z by omega]
theorem hz_c (z x : Int) (h : -10000000 ≤ z ∧ z ≤ 10000000) (hx : -9000 ≤ x ∧ x ≤ 9000) (w : World) : Calls Tryz.prog 67 #[.int .i64 z, .int .i64 x] w fun e' w' => e' = .returned (.tuple #[(hz z x).v, .int .i64 0]) ∧ Below w.heap.size w w' := by
  have k := DOf_c z x w (by omega) (by omega)
  unfold MkPost at k
  rw [mkE_ok (mkOk_z h (by omega) (by omega))] at k
  unfold hz
  exact k
theorem add_hz {p : Dy} {z0 z2 z1 x : Int} (hp : p.Ok) (h0 : -1000000 ≤ z0 ∧ z0 ≤ 1000000) (h2 : -1000000 ≤ z2 ∧ z2 ≤ 1000000) (hx : -9000 ≤ x ∧ x ≤ 9000) (hs : z1 = z0 + z2) (h : addE p (hz z0 x) = 0) :
    addD p (hz z1 x) = addD (addD p (hz z0 x)) (hz z2 x) ∧ addE p (hz z1 x) = addE (addD p (hz z0 x)) (hz z2 x) := by
  have e1 := add_iv hp (hz_Ok z1 x)
  have e2 := add_iv (add_Ok hp (hz_Ok z0 x)) (hz_Ok z2 x)
  have e3 := iv_addz hp (hz_Ok z0 x) h
  rw [e1.1, e1.2, e2.1, e2.2, e3, iv_hz (by omega) (by omega) (by omega), iv_hz (by omega) (by omega) (by omega), iv_hz (by omega) (by omega) (by omega), hs, Int.add_mul, Int.add_assoc]
  exact ⟨rfl, rfl⟩
theorem DAdd_canon {a b c : Dy} {k : Int} (ha : a.Ok) (hb : b.Ok) (h : addD a b = c ∧ addE a b = k) (w : World) (hG : Globs glT w) : Calls Tryz.prog 38 #[.agg #[.bool a.g, .string (natS a.n), .int .i64 a.x], .agg #[.bool b.g, .string (natS b.n), .int .i64 b.x]] w fun e' w' => e' = .returned (.tuple #[.agg #[.bool c.g, .string (natS c.n), .int .i64 c.x], .int .i64 k]) ∧ Below w.heap.size w w' := by
  have h2 := DAdd_c a b w ha hb hG
  unfold AddPost at h2
  rw [h.1, h.2] at h2
  exact h2
section
variable [Env]
theorem vopt_add {P : Program} {t : TypeId} {a b r : AV} {x y z : Int} (ha : gval a = .int .i64 x) (hb : gval b = .int .i64 y) (hr : ground r = true) (hv : gval r = .int .i64 z) (h : x + y = z) (h1 : -9223372036854775808 ≤ z ∧ z ≤ 9223372036854775807) : OpT P [0, 0, t] [a, b] r :=
  opt_int (op := .add) ha hb hr hv fun w => by
    have : IntKind.i64.wrap (x + y) = z := by rw [h]; exact IntWalk.i64_in _ h1
    simp [binOp, Op.intArith, this]
end
section
variable [Env]
end
section
variable [Env]
end
@[reducible] def halves_z_f : FuncId := 39
@[reducible] def halves_z_a : List AV := [.sym 0, .sym 1]
@[reducible] noncomputable def halves_z_k : Know := ⟨[([0, 1, 3], [.sym 1, .lit (.int .i64 1)], .sym 2)],
  [(67, [.sym 0, .sym 2], .tup [.agg [.sym 3, .sym 4, .sym 5], .lit (.int .i64 0)])]⟩
theorem halves_z_r1 : @comes halves_z_k Tryz.prog glT 3000 halves_z_f halves_z_a = some (.agg [.sym 3, .sym 4, .sym 5]) := by kernel_rfl
set_option maxRecDepth 100000 in
set_option maxHeartbeats 4000000 in
theorem halves_z (z y : Int) (w : World) (hzb : -1000000 ≤ z ∧ z ≤ 1000000) (hy : -8000 ≤ y ∧ y ≤ 8000) (hG : Globs glT w) : Calls Tryz.prog 39 #[.int .i64 z, .int .i64 y] w fun e w' => e = .returned ((hz z (y - 1)).v) ∧ Below w.heap.size w w' := by
  letI : Env := mkEnv glT [.int .i64 z, .int .i64 y, .int .i64 (y - 1), .bool (hz z (y - 1)).g, .string (natS (hz z (y - 1)).n), .int .i64 (hz z (y - 1)).x] rfl
  have hops : OpsT Tryz.prog (@Know.ops halves_z_k) := ⟨vopt_sub rfl rfl rfl rfl (by omega) ⟨by omega, by omega⟩,
    trivial⟩
  have hcalls : CallsT Tryz.prog (@Know.calls halves_z_k) := ⟨callt rfl rfl fun w hG => hz_c z (y - 1) ⟨by omega, by omega⟩ ⟨by omega, by omega⟩ w,
    trivial⟩
  have fin : ∀ v, @comes halves_z_k Tryz.prog glT 3000 halves_z_f halves_z_a = some v → ground v = true → Ending.returned (gval v) = .returned ((hz z (y - 1)).v) → Calls Tryz.prog 39 #[.int .i64 z, .int .i64 y] w fun e w' => e = .returned ((hz z (y - 1)).v) ∧ Below w.heap.size w w' := fun v h1 h2 h3 => (@sym_ok _ halves_z_k _ (@KnowOk.of _ halves_z_k _ hops hcalls) (by kernel_rfl) _ _ _ _ h1 rfl h2 _ hG).mono fun e w' h => ⟨h.1.trans h3, h.2⟩
  clear hops hcalls
  exact fin _ (halves_z_r1) rfl rfl
end Go.Proofs.YtamcnnocjelcjaaGreatDoor
namespace Go.Proofs.YtamcnnocjelcjaaGreatDoor
open Go Go.RowKit Nt
def B6 (w : World) (B : Nat) (a : Gt) : Prop := Blk w B 26 #[.bool a.re.g, .string a.re.s, .int .i64 a.re.x, .bool a.im.g, .string a.im.s, .int .i64 a.im.x]
theorem B6.facts {w : World} {B : Nat} {a : Gt} (h : B6 w B a) : B < w.heap.size ∧ w.cell? ⟨B, 0, none⟩ = some (.bool a.re.g) ∧ w.cell? ⟨B, 1, none⟩ = some (.string a.re.s) ∧ w.cell? ⟨B, 2, none⟩ = some (.int .i64 a.re.x) ∧ w.cell? ⟨B, 3, none⟩ = some (.bool a.im.g) ∧ w.cell? ⟨B, 4, none⟩ = some (.string a.im.s) ∧ w.cell? ⟨B, 5, none⟩ = some (.int .i64 a.im.x) ∧ w.frozen? ⟨B, 0, none⟩ = false ∧ w.frozen? ⟨B, 1, none⟩ = false ∧ w.frozen? ⟨B, 2, none⟩ = false ∧ w.frozen? ⟨B, 3, none⟩ = false ∧ w.frozen? ⟨B, 4, none⟩ = false ∧ w.frozen? ⟨B, 5, none⟩ = false :=
  ⟨Blk.lt h, (Blk.cell h 0).trans rfl, (Blk.cell h 1).trans rfl, (Blk.cell h 2).trans rfl, (Blk.cell h 3).trans rfl, (Blk.cell h 4).trans rfl, (Blk.cell h 5).trans rfl, Blk.frozen h 0, Blk.frozen h 1, Blk.frozen h 2, Blk.frozen h 3, Blk.frozen h 4, Blk.frozen h 5⟩
def GB (w : World) (a : Gt) (W : World) : Prop := Below w.heap.size w W ∧ B6 W w.heap.size a
theorem GB.start (w : World) (a : Gt) : GB w a (w.alloc (.cells #[.bool a.re.g, .string a.re.s, .int .i64 a.re.x, .bool a.im.g, .string a.im.s, .int .i64 a.im.x] 26)) := ⟨(Below.refl _ _).alloc (Nat.le_refl _) _, Blk.new w _ _⟩
theorem GB.step {w : World} {a : Gt} {W W' : World} (h : GB w a W) (hb : Below W.heap.size W W') : GB w a W' := ⟨below_then h.1 hb, Blk.below h.2 hb (Blk.lt h.2)⟩
theorem GB.more {w : World} {a : Gt} {W : World} (h : GB w a W) (o : Obj) : GB w a (W.alloc o) := h.step ((Below.refl _ _).alloc (Nat.le_refl _) _)
end Go.Proofs.YtamcnnocjelcjaaGreatDoor
namespace Go.Proofs.YtamcnnocjelcjaaGreatDoor
open Go Go.RowKit Nt
def Upto (X T : Int) (n i : Nat) : Prop := X ≤ (2 * (i : Int) + 2 - (n : Int)) * T
def IsSlot (X T : Int) (n c : Nat) : Prop := c < n ∧ Upto X T n c ∧ ∀ j, j < c → ¬ Upto X T n j
theorem upto_mono {X T : Int} {n i j : Nat} (hT : 0 < T) (h : i ≤ j) (hi : Upto X T n i) : Upto X T n j := by
  unfold Upto at hi ⊢
  have h1 : (2 * (i : Int) + 2 - (n : Int)) ≤ (2 * (j : Int) + 2 - (n : Int)) := by omega
  exact Int.le_trans hi (Int.mul_le_mul_of_nonneg_right h1 (Int.le_of_lt hT))
@[irreducible] def hT (x : Int) : Int := ((2 ^ (x - 1 + (EE : Int)).toNat : Nat) : Int)
theorem hT_pos (x : Int) : 0 < hT x := by
  unfold hT
  have := Nat.two_pow_pos (x - 1 + (EE : Int)).toNat
  omega
theorem iv_half {z x : Int} (h : -10000000 ≤ z ∧ z ≤ 10000000) (hx : -4096 ≤ x ∧ x ≤ 4096) : iv (hz z (x - 1)) = z * hT x := by
  rw [iv_hz h (by omega) (by omega)]
  unfold hT; rfl
theorem cmpV_le {a b : Dy} (ha : a.Ok) (hb : b.Ok) : cmpD a b ≤ 0 ↔ iv a ≤ iv b := by
  rw [cmp_iv ha hb]
  unfold sgI
  split <;> (try split) <;> omega
theorem cmpV_lt {a b : Dy} (ha : a.Ok) (hb : b.Ok) : cmpD a b < 0 ↔ iv a < iv b := by
  rw [cmp_iv ha hb]
  unfold sgI
  split <;> (try split) <;> omega
end Go.Proofs.YtamcnnocjelcjaaGreatDoor
namespace Go.Proofs.YtamcnnocjelcjaaGreatDoor
open Go Go.RowKit Nt
def StV (w W : World) : Prop := Below w.heap.size w W
theorem StV.step {w W W' : World} (h : StV w W) (hb : Below W.heap.size W W') : StV w W' := below_chain h hb
theorem StV.drew {w W : World} (h : StV w W) : StV w W.drew := Below.drew h
theorem StV.drawn {w W : World} (h : StV w W) (n : Nat) : StV w (W.drewN n) := below_drewN h n
set_option maxRecDepth 100000 in
theorem within_c (n l h : Int) (b : Bool) (hb : b = true ↔ l ≤ n ∧ n ≤ h) (w : World) : Calls Tryz.prog 16 #[.int .i64 n, .int .i64 l, .int .i64 h] w fun e w' => e = .returned (.bool b) ∧ w = w' := by
  by_cases h1 : l ≤ n
  · have e : b = decide (n ≤ h) := by
      rw [Bool.eq_iff_iff, hb, decide_eq_true_iff]
      exact ⟨fun c => c.2, fun c => ⟨h1, c⟩⟩
    subst e
    clear hb
    go_enter Tryz.func16, Tryz.ntmps16
    go_wp2_with fail
    go_ret
    exact ⟨rfl, rfl⟩
  · have e : b = false := Bool.eq_false_iff.2 (fun c => h1 (hb.1 c).1)
    subst e
    have h2 : decide (l ≤ n) = false := decide_eq_false h1
    clear hb
    go_enter Tryz.func16, Tryz.ntmps16
    go_wp2_with fail
    go_ret
    exact ⟨rfl, rfl⟩
set_option maxRecDepth 100000 in
set_option maxHeartbeats 2000000 in
theorem halves_c (n e : Int) (hn : -10000000 ≤ n ∧ n ≤ 10000000) (he : -8000 ≤ e ∧ e ≤ 8000) (w : World) : Calls Tryz.prog 39 #[.int .i64 n, .int .i64 e] w fun r w' => r = .returned (hz n (e - 1)).v ∧ Below w.heap.size w w' := by
  have K := Lib.hid (fun w => hz_c n (e - 1) hn (by omega) w)
  have hw : IntKind.i64.wrap (e - 1) = e - 1 := IntWalk.i64_in _ (by omega)
  generalize hz n (e - 1) = D at *
  unfold Dy.v at *
  have T0 := OB.start w ⟨false, ⟨#[]⟩, 0⟩
  go_enter Tryz.func39, Tryz.ntmps39
  go_wp2_with (first | (go_at_call 67; (with_reducible refine (K.out _).mono ?_); rintro ee w1 ⟨rfl, hb⟩; replace T0 := T0.step hb; clear hb; obtain ⟨r0, r1, r2, r3, r4, r5, r6⟩ := T0.2.facts))
  have T1 := T0.more (.cells #[.bool D.g, .string (natS D.n), .int .i64 D.x] 24)
  obtain ⟨y0, y1, y2, y3, y4, y5, y6⟩ := T1.2.facts
  refine bodyPost_ret (v := .agg #[.bool D.g, .string (natS D.n), .int .i64 D.x]) (by simp [results, Tryz.results39, go_sem, r0, r1, r2, r3, y0, y1, y2, y3]) rfl ⟨rfl, ?_⟩
  exact Below.alloc (below_put T0.1 (Nat.le_refl _) _ _ _) (by simpa using T0.1.size) _
set_option maxRecDepth 100000 in
set_option maxHeartbeats 2000000 in
theorem upTo_c (x : Dy) (k e : Int) (Bx Be : Nat) (w : World) (hx : x.Ok) (hk : -10000000 ≤ k ∧ k ≤ 10000000) (he : -8000 ≤ e ∧ e ≤ 8000) (hBx : Bx < w.heap.size) (hBe : Be < w.heap.size)
    (c0 : w.cell? ⟨Bx, 0, none⟩ = some (.bool x.g)) (c1 : w.cell? ⟨Bx, 1, none⟩ = some (.string (natS x.n))) (c2 : w.cell? ⟨Bx, 2, none⟩ = some (.int .i64 x.x)) (ce : w.cell? ⟨Be, 0, none⟩ = some (.int .i64 e)) :
    Calls Tryz.prog 44 #[.int .i64 k, .pointer (some ⟨Bx, 0, none⟩), .pointer (some ⟨Be, 0, none⟩)] w fun r w' => r = .returned (.bool (decide (cmpD x (hz k (e - 1)) ≤ 0))) ∧ Below w.heap.size w w' := by
  have K := Lib.hid (fun w => halves_c k e hk he w)
  have KC := Lib.hid (fun w => DCmp_c x (hz k (e - 1)) w hx (hz_Ok _ _))
  generalize cmpD x (hz k (e - 1)) = C at *
  generalize hz k (e - 1) = D at *
  unfold Dy.v at *
  have S0 : StV w w := Below.refl _ _
  have L0 := fun U (s : StV w U) => (Below.cell s (p := ⟨Bx, 0, none⟩) hBx).trans c0
  have L1 := fun U (s : StV w U) => (Below.cell s (p := ⟨Bx, 1, none⟩) hBx).trans c1
  have L2 := fun U (s : StV w U) => (Below.cell s (p := ⟨Bx, 2, none⟩) hBx).trans c2
  have L3 := fun U (s : StV w U) => (Below.cell s (p := ⟨Be, 0, none⟩) hBe).trans ce
  clear c0 c1 c2 ce
  go_enter Tryz.func44, Tryz.ntmps44
  go_wp2_with fail
  go_region_held3 (StV w) (first | assumption | exact StV.step (by assumption) (by assumption) | exact StV.drew (by assumption) | exact StV.drawn (by assumption) _)
    (first
      | (go_at_call 39; refine (K.out _).mono ?_; rintro e w1 ⟨rfl, hb1⟩)
      | (go_at_call 14; refine (KC.out _).mono ?_; rintro e w2 ⟨rfl, hb2⟩))
  rename_i hHeld
  clear L0 L1 L2 L3 hb1 hb2 S0
  have hfin : Below w.heap.size w w2 := hHeld
  clear hHeld
  go_wp2_with fail
  go_ret
  exact ⟨rfl, hfin⟩
end Go.Proofs.YtamcnnocjelcjaaGreatDoor
namespace Go.Proofs.YtamcnnocjelcjaaGreatDoor
open Go Go.RowKit Nt
structure WinT where
  c : Gt
  e : Int
  a : Int
  d : Int
def WinT.Ok (t : WinT) : Prop := t.c.Ok ∧ (-4096 ≤ t.e ∧ t.e ≤ 4096) ∧ (1 ≤ t.a ∧ t.a ≤ 65536) ∧ (1 ≤ t.d ∧ t.d ≤ 65536)
def Bx9 (w : World) (B : Nat) (t : WinT) : Prop := Blk w B 28 #[.bool t.c.re.g, .string t.c.re.s, .int .i64 t.c.re.x, .bool t.c.im.g, .string t.c.im.s, .int .i64 t.c.im.x, .int .i64 t.e, .int .i64 t.a, .int .i64 t.d]
theorem Bx9.facts {w : World} {B : Nat} {t : WinT} (h : Bx9 w B t) : B < w.heap.size ∧ w.cell? ⟨B, 0, none⟩ = some (.bool t.c.re.g) ∧ w.cell? ⟨B, 1, none⟩ = some (.string t.c.re.s) ∧ w.cell? ⟨B, 2, none⟩ = some (.int .i64 t.c.re.x) ∧ w.cell? ⟨B, 3, none⟩ = some (.bool t.c.im.g) ∧ w.cell? ⟨B, 4, none⟩ = some (.string t.c.im.s) ∧ w.cell? ⟨B, 5, none⟩ = some (.int .i64 t.c.im.x) ∧ w.cell? ⟨B, 6, none⟩ = some (.int .i64 t.e) ∧ w.cell? ⟨B, 7, none⟩ = some (.int .i64 t.a) ∧ w.cell? ⟨B, 8, none⟩ = some (.int .i64 t.d) :=
  ⟨Blk.lt h, (Blk.cell h 0).trans rfl, (Blk.cell h 1).trans rfl, (Blk.cell h 2).trans rfl, (Blk.cell h 3).trans rfl, (Blk.cell h 4).trans rfl, (Blk.cell h 5).trans rfl, (Blk.cell h 6).trans rfl, (Blk.cell h 7).trans rfl, (Blk.cell h 8).trans rfl⟩
def WinB (w : World) (t : WinT) (W : World) : Prop := Below w.heap.size w W ∧ Bx9 W w.heap.size t
theorem WinB.start (w : World) (t : WinT) : WinB w t (w.alloc (.cells #[.bool t.c.re.g, .string t.c.re.s, .int .i64 t.c.re.x, .bool t.c.im.g, .string t.c.im.s, .int .i64 t.c.im.x, .int .i64 t.e, .int .i64 t.a, .int .i64 t.d] 28)) := ⟨(Below.refl _ _).alloc (Nat.le_refl _) _, Blk.new w _ _⟩
theorem WinB.step {w : World} {t : WinT} {W W' : World} (h : WinB w t W) (hb : Below W.heap.size W W') : WinB w t W' := ⟨below_then h.1 hb, Blk.below h.2 hb (Blk.lt h.2)⟩
theorem WinB.more {w : World} {t : WinT} {W : World} (h : WinB w t W) (o : Obj) : WinB w t (W.alloc o) := h.step ((Below.refl _ _).alloc (Nat.le_refl _) _)
open Classical in
@[irreducible] noncomputable def wE (t : WinT) : Int := if t.Ok then 0 else 240
theorem wE_ok {t : WinT} (h : t.Ok) : wE t = 0 := by unfold wE; rw [if_pos h]
theorem wE_no {t : WinT} (h : ¬ t.Ok) : wE t = 240 := by unfold wE; rw [if_neg h]
set_option maxRecDepth 100000 in
set_option maxHeartbeats 4000000 in
theorem VCheck_w (t : WinT) (ge r : Int) (b1 b2 b3 : Bool) (w : World) (hG : Globs glT w)
    (KC : ∀ w, Globs glT w → Calls Tryz.prog 19 #[.agg #[.bool t.c.re.g, .string t.c.re.s, .int .i64 t.c.re.x, .bool t.c.im.g, .string t.c.im.s, .int .i64 t.c.im.x]] w fun e w' => e = .returned (.int .i64 ge) ∧ Below w.heap.size w w')
    (h1 : b1 = true ↔ -4096 ≤ t.e ∧ t.e ≤ 4096) (h2 : b2 = true ↔ 1 ≤ t.a ∧ t.a ≤ 65536) (h3 : b3 = true ↔ 1 ≤ t.d ∧ t.d ≤ 65536)
    (h : (¬ ge = 0 ∧ r = 240) ∨ (ge = 0 ∧ b1 = false ∧ r = 240) ∨ (ge = 0 ∧ b1 = true ∧ b2 = false ∧ r = 240) ∨ (ge = 0 ∧ b1 = true ∧ b2 = true ∧ b3 = false ∧ r = 240) ∨ (ge = 0 ∧ b1 = true ∧ b2 = true ∧ b3 = true ∧ r = 0)) :
    Calls Tryz.prog 15 #[.agg #[.bool t.c.re.g, .string t.c.re.s, .int .i64 t.c.re.x, .bool t.c.im.g, .string t.c.im.s, .int .i64 t.c.im.x, .int .i64 t.e, .int .i64 t.a, .int .i64 t.d]] w fun e w' => e = .returned (.int .i64 r) ∧ Below w.heap.size w w' := by
  have K1 := Lib.hid KC
  have K2 := Lib.hid (fun w => within_c t.e (-4096) 4096 b1 h1 w)
  have K3 := Lib.hid (fun w => within_c t.a 1 65536 b2 h2 w)
  have K4 := Lib.hid (fun w => within_c t.d 1 65536 b3 h3 w)
  have HG := Lib.hid hG
  have T0 := WinB.start w t
  clear KC h1 h2 h3 hG
  obtain ⟨r0, r1, r2, r3, r4, r5, r6, r7, r8, r9⟩ := T0.2.facts
  rcases h with ⟨c, rfl⟩ | ⟨rfl, rfl, rfl⟩ | ⟨rfl, rfl, rfl, rfl⟩ | ⟨rfl, rfl, rfl, rfl, rfl⟩ | ⟨rfl, rfl, rfl, rfl, rfl⟩
  case' inl =>
    have q1 : (ge == 0) = false := beq_eq_false_iff_ne.2 c
    have q2 : (ge != 0) = true := by rw [bne, q1]; rfl
  all_goals
    go_enter Tryz.func15, Tryz.ntmps15
    go_wp2_with (first | (go_at_call 19; have HK := K1.out _ (HG.out.below T0.1 (Nat.le_refl _)); (with_reducible refine HK.mono ?_); clear HK; rintro ee w1 ⟨rfl, hb⟩; replace T0 := T0.step hb; clear hb r0 r1 r2 r3 r4 r5 r6 r7 r8 r9; obtain ⟨r0, r1, r2, r3, r4, r5, r6, r7, r8, r9⟩ := T0.2.facts) | (go_at_call 16; (with_reducible refine (K2.out _).mono ?_); rintro ee w1 ⟨rfl, rfl⟩) | (go_at_call 16; (with_reducible refine (K3.out _).mono ?_); rintro ee w1 ⟨rfl, rfl⟩) | (go_at_call 16; (with_reducible refine (K4.out _).mono ?_); rintro ee w1 ⟨rfl, rfl⟩))
    go_ret
    exact ⟨rfl, T0.1⟩
open Classical in
theorem VCheck_c (t : WinT) (w : World) (hs : t.c.Small) (hG : Globs glT w) : Calls Tryz.prog 15 #[.agg #[.bool t.c.re.g, .string t.c.re.s, .int .i64 t.c.re.x, .bool t.c.im.g, .string t.c.im.s, .int .i64 t.c.im.x, .int .i64 t.e, .int .i64 t.a, .int .i64 t.d]] w fun e w' => e = .returned (.int .i64 (wE t)) ∧ Below w.heap.size w w' := by
  obtain ⟨b1, h1⟩ : ∃ b : Bool, b = true ↔ -4096 ≤ t.e ∧ t.e ≤ 4096 := ⟨decide _, decide_eq_true_iff⟩
  obtain ⟨b2, h2⟩ : ∃ b : Bool, b = true ↔ 1 ≤ t.a ∧ t.a ≤ 65536 := ⟨decide _, decide_eq_true_iff⟩
  obtain ⟨b3, h3⟩ : ∃ b : Bool, b = true ↔ 1 ≤ t.d ∧ t.d ≤ 65536 := ⟨decide _, decide_eq_true_iff⟩
  refine VCheck_w t (gE t.c) (wE t) b1 b2 b3 w hG (fun w hG => GCheck_c t.c w hs.1 hs.2 hG) h1 h2 h3 ?_
  by_cases hc : t.c.Ok
  · rw [gE_ok hc]
    cases b1 with
    | false => exact Or.inr (Or.inl ⟨rfl, rfl, wE_no (fun c => Bool.false_ne_true (h1.2 c.2.1))⟩)
    | true => cases b2 with
      | false => exact Or.inr (Or.inr (Or.inl ⟨rfl, rfl, rfl, wE_no (fun c => Bool.false_ne_true (h2.2 c.2.2.1))⟩))
      | true => cases b3 with
        | false => exact Or.inr (Or.inr (Or.inr (Or.inl ⟨rfl, rfl, rfl, rfl, wE_no (fun c => Bool.false_ne_true (h3.2 c.2.2.2))⟩)))
        | true => exact Or.inr (Or.inr (Or.inr (Or.inr ⟨rfl, rfl, rfl, rfl, wE_ok ⟨hc, h1.1 rfl, h2.1 rfl, h3.1 rfl⟩⟩)))
  · rw [gE_no hc]
    exact Or.inl ⟨by decide, wE_no (fun c => hc c.1)⟩
end Go.Proofs.YtamcnnocjelcjaaGreatDoor
namespace Go.Proofs.YtamcnnocjelcjaaGreatDoor
open Go Go.RowKit Nt
structure SlB (w : World) (x : Dy) (n : Nat) (e : Int) (W : World) : Prop where
  low : Below w.heap.size w W
  b0 : Blk W w.heap.size 24 #[.bool x.g, .string (natS x.n), .int .i64 x.x]
  b1 : Blk W (w.heap.size + 1) 3 #[.int .i64 (n : Nat)]
  b2 : Blk W (w.heap.size + 1 + 1) 3 #[.int .i64 e]
  b3 : Blk W (w.heap.size + 1 + 1 + 1) 62 #[.func (.func 44) #[] #[.pointer (some ⟨w.heap.size, 0, none⟩), .pointer (some ⟨w.heap.size + 1 + 1, 0, none⟩)]]
theorem SlB.step {w : World} {x : Dy} {n : Nat} {e : Int} {W W' : World} (h : SlB w x n e W) (hb : Below W.heap.size W W') : SlB w x n e W' :=
  ⟨below_then h.low hb, Blk.below h.b0 hb (Blk.lt h.b0), Blk.below h.b1 hb (Blk.lt h.b1), Blk.below h.b2 hb (Blk.lt h.b2), Blk.below h.b3 hb (Blk.lt h.b3)⟩
theorem SlB.c0 {w : World} {x : Dy} {n : Nat} {e : Int} {W : World} (h : SlB w x n e W) : W.cell? ⟨w.heap.size, 0, none⟩ = some (.bool x.g) := (Blk.cell h.b0 0).trans rfl
theorem SlB.c1 {w : World} {x : Dy} {n : Nat} {e : Int} {W : World} (h : SlB w x n e W) : W.cell? ⟨w.heap.size, 1, none⟩ = some (.string (natS x.n)) := (Blk.cell h.b0 1).trans rfl
theorem SlB.c2 {w : World} {x : Dy} {n : Nat} {e : Int} {W : World} (h : SlB w x n e W) : W.cell? ⟨w.heap.size, 2, none⟩ = some (.int .i64 x.x) := (Blk.cell h.b0 2).trans rfl
theorem SlB.cn {w : World} {x : Dy} {n : Nat} {e : Int} {W : World} (h : SlB w x n e W) : W.cell? ⟨w.heap.size + 1, 0, none⟩ = some (.int .i64 (n : Nat)) := (Blk.cell h.b1 0).trans rfl
theorem SlB.ce {w : World} {x : Dy} {n : Nat} {e : Int} {W : World} (h : SlB w x n e W) : W.cell? ⟨w.heap.size + 1 + 1, 0, none⟩ = some (.int .i64 e) := (Blk.cell h.b2 0).trans rfl
theorem SlB.cf {w : World} {x : Dy} {n : Nat} {e : Int} {W : World} (h : SlB w x n e W) : W.cell? ⟨w.heap.size + 1 + 1 + 1, 0, none⟩ = some (.func (.func 44) #[] #[.pointer (some ⟨w.heap.size, 0, none⟩), .pointer (some ⟨w.heap.size + 1 + 1, 0, none⟩)]) := (Blk.cell h.b3 0).trans rfl
theorem SlB.upTo {w : World} {x : Dy} {n : Nat} {e : Int} {W : World} (h : SlB w x n e W) (k : Int) (hx : x.Ok) (hk : -10000000 ≤ k ∧ k ≤ 10000000) (he : -8000 ≤ e ∧ e ≤ 8000) :
    Calls Tryz.prog 44 #[.int .i64 k, .pointer (some ⟨w.heap.size, 0, none⟩), .pointer (some ⟨w.heap.size + 1 + 1, 0, none⟩)] W fun r w' => r = .returned (.bool (decide (cmpD x (hz k (e - 1)) ≤ 0))) ∧ Below W.heap.size W w' :=
  upTo_c x k e _ _ W hx hk he (Blk.lt h.b0) (Blk.lt h.b2) h.c0 h.c1 h.c2 h.ce
set_option maxRecDepth 100000 in
set_option maxHeartbeats 2000000 in
theorem mark_c {w : World} {x : Dy} {n : Nat} {e : Int} {W : World} (h : SlB w x n e W) (i : Nat) (hx : x.Ok) (hi : i < n) (hn : n ≤ 65536) (he : -8000 ≤ e ∧ e ≤ 8000) :
    Calls Tryz.prog 46 #[.int .i64 (i : Nat), .pointer (some ⟨w.heap.size + 1 + 1 + 1, 0, none⟩), .pointer (some ⟨w.heap.size + 1, 0, none⟩)] W fun r w' => r = .returned (.bool (decide (cmpD x (hz (2 * (i : Int) - (n : Int) + 2) (e - 1)) ≤ 0))) ∧ Below W.heap.size W w' := by
  have K := Lib.hid (h.upTo (2 * (i : Int) - (n : Int) + 2) hx (by omega) he)
  have c1 := h.cf
  have c2 := h.cn
  clear h
  generalize decide (cmpD x (hz (2 * (i : Int) - (n : Int) + 2) (e - 1)) ≤ 0) = R at *
  go_enter Tryz.func46, Tryz.ntmps46
  go_wp2_with (first | (go_at_call 44; go_loud (refine K.out.mono ?_; rintro ee w1 ⟨rfl, hb⟩)))
  go_ret
  exact ⟨rfl, hb⟩
theorem mark_iff {x : Dy} {n i : Nat} {e : Int} (hx : x.Ok) (hi : i < n) (hn : n ≤ 65536) (he : -4096 ≤ e ∧ e ≤ 4096) : cmpD x (hz (2 * (i : Int) - (n : Int) + 2) (e - 1)) ≤ 0 ↔ Upto (iv x) (hT e) n i := by
  rw [cmpV_le hx (hz_Ok _ _), iv_half (by omega) he]
  unfold Upto
  rw [show 2 * (i : Int) - (n : Int) + 2 = 2 * (i : Int) + 2 - (n : Int) by omega]
set_option maxRecDepth 100000 in
set_option maxHeartbeats 4000000 in
theorem Search_c {w : World} {x : Dy} {n : Nat} {e : Int} {W : World} (h : SlB w x n e W) (c : Nat) (hx : x.Ok) (hn : n ≤ 65536) (he : -4096 ≤ e ∧ e ≤ 4096) (hs : IsSlot (iv x) (hT e) n c) :
    Calls Tryz.prog 45 #[.int .i64 (n : Nat), .func (.func 46) #[] #[.pointer (some ⟨w.heap.size + 1 + 1 + 1, 0, none⟩), .pointer (some ⟨w.heap.size + 1, 0, none⟩)]] W fun r w' => r = .returned (.int .i64 (c : Nat)) ∧ Below W.heap.size W w' := by
  have HS := Lib.hid hs
  have HB := Lib.hid h
  have HX := Lib.hid hx
  have HE := Lib.hid he
  have hc0 : c ≤ n := Nat.le_of_lt hs.1
  clear hs h hx he
  go_enter Tryz.func45, Tryz.ntmps45
  go_wp2_with fail
  go_loopw [5, 6] (fun vi vj wr => ∃ i j : Nat, vi = .int .i64 (i : Nat) ∧ vj = .int .i64 (j : Nat) ∧ i ≤ c ∧ c ≤ j ∧ j ≤ n ∧ Below W.heap.size W wr) (fun vi vj _ => (intOf vj - intOf vi).toNat)
  case atStart => exact ⟨0, n, rfl, rfl, by omega, hc0, Nat.le_refl _, Below.refl _ _⟩
  case round =>
    obtain ⟨i, j, rfl, rfl, hi, hj, hjn, hb⟩ := hrel
    by_cases hij : i < j
    · obtain ⟨m, hm⟩ : ∃ m, m = (i + j) / 2 := ⟨_, rfl⟩
      have hm1 : i ≤ m := by omega
      have hm2 : m < j := by omega
      have K := mark_c (HB.out.step hb) m HX.out (by omega) hn (by have := HE.out; omega)
      have hiff := mark_iff HX.out (i := m) (n := n) (by omega) hn HE.out
      have hq : ((i : Int) + (j : Int)) / 2 = (m : Int) := by omega
      have hjl : i ≤ 65536 := by omega
      have hjm : j ≤ 65536 := by omega
      by_cases hu : Upto (iv x) (hT e) n m
      · rw [decide_eq_true (hiff.2 hu)] at K
        have hcm : c ≤ m := Nat.le_of_not_lt fun cc => HS.out.2.2 m cc hu
        have K1 := Lib.hid K
        have hmn : m ≤ n := by omega
        have HME := Lib.hid (show m - i < j - i by omega)
        clear K hiff hu hm
        go_wp2_with (first | (go_at_call 46; (with_reducible refine K1.out.mono ?_); rintro ee w1 ⟨rfl, hb2⟩; replace hb := below_chain hb hb2; clear hb2))
        go_roundw
        case rel => exact ⟨i, m, rfl, rfl, hi, hcm, hmn, hb⟩
        case measure => simp [intOf]; omega
      · rw [decide_eq_false (fun c => hu (hiff.1 c))] at K
        have hcm : m + 1 ≤ c := Nat.lt_of_not_le fun cc => hu (upto_mono (hT_pos e) cc HS.out.2.1)
        have K1 := Lib.hid K
        clear K hiff hu hm
        go_wp2_with (first | (go_at_call 46; (with_reducible refine K1.out.mono ?_); rintro ee w1 ⟨rfl, hb2⟩; replace hb := below_chain hb hb2; clear hb2))
        go_roundw
        case rel => exact ⟨m + 1, j, by go_num, rfl, hcm, hj, hjn, hb⟩
        case measure => simp [intOf]; omega
    · obtain rfl : i = c := by omega
      go_wp2_with fail
      go_ret
      exact ⟨rfl, hb⟩
end Go.Proofs.YtamcnnocjelcjaaGreatDoor
namespace Go.Proofs.YtamcnnocjelcjaaGreatDoor
open Go Go.RowKit Nt
theorem vet {P : Prop} (h : P) : true = true ↔ P := ⟨fun _ => h, fun _ => rfl⟩
theorem vef {P : Prop} (h : ¬ P) : false = true ↔ P := ⟨fun k => absurd k Bool.false_ne_true, fun k => absurd k h⟩
@[reducible] def VHolds_e_f : FuncId := 13
@[reducible] def VHolds_e_a : List AV := [.agg [.sym 0, .sym 1, .sym 2, .sym 3, .sym 4, .sym 5, .sym 6], .agg [.sym 7, .sym 8, .sym 9, .sym 10, .sym 11, .sym 12]]
@[reducible] noncomputable def VHolds_e_k (b1 b2 : Bool) : Know := ⟨[([0, 12, 31], [.sym 19, .lit (.int .i64 0)], .lit (.bool (!b1))),
  ([0, 12, 31], [.sym 23, .lit (.int .i64 0)], .lit (.bool (!b2)))],
  [(32, [.agg [.sym 0, .sym 1, .sym 2, .sym 3, .sym 4, .sym 5, .sym 6]], .lit (.int .i64 0)),
  (19, [.agg [.sym 7, .sym 8, .sym 9, .sym 10, .sym 11, .sym 12]], .lit (.int .i64 0)),
  (39, [.lit (.int .i64 2), .sym 6], .agg [.sym 13, .sym 14, .sym 15]),
  (38, [.agg [.sym 0, .sym 1, .sym 2], .agg [.sym 13, .sym 14, .sym 15]], .tup [.agg [.sym 16, .sym 17, .sym 18], .sym 19]),
  (38, [.agg [.sym 3, .sym 4, .sym 5], .agg [.sym 13, .sym 14, .sym 15]], .tup [.agg [.sym 20, .sym 21, .sym 22], .sym 23])]⟩
theorem VHolds_e_r1 : @comes (VHolds_e_k true false) Tryz.prog glT 3000 VHolds_e_f VHolds_e_a = some (.lit (.tuple #[.bool false, .int .i64 4])) := by kernel_rfl
theorem VHolds_e_r2 (b2 : Bool) : @comes (VHolds_e_k false b2) Tryz.prog glT 3000 VHolds_e_f VHolds_e_a = some (.lit (.tuple #[.bool false, .int .i64 4])) := by kernel_rfl
set_option maxRecDepth 100000 in
set_option maxHeartbeats 4000000 in
theorem VHolds_e (l m : Dy) (y : Int) (g : Gs) (w : World) (hl : l.Ok) (hm : m.Ok) (he : -4096 ≤ y ∧ y ≤ 4096) (hg : g.Ok) (hn : ¬ (addE l (pw y) = 0 ∧ addE m (pw y) = 0)) (hG : Globs glT w) : Calls Tryz.prog 13 #[.agg #[.bool l.g, .string (natS l.n), .int .i64 l.x, .bool m.g, .string (natS m.n), .int .i64 m.x, .int .i64 y], .agg #[.bool g.re.g, .string (natS g.re.n), .int .i64 g.re.x, .bool g.im.g, .string (natS g.im.n), .int .i64 g.im.x]] w fun e w' => e = .returned (.tuple #[.bool false, .int .i64 4]) ∧ Below w.heap.size w w' := by
  obtain ⟨b1, i1⟩ := bex (addE l (pw y) = 0)
  obtain ⟨b2, i2⟩ := bex (addE m (pw y) = 0)
  letI : Env := mkEnv glT [.bool l.g, .string (natS l.n), .int .i64 l.x, .bool m.g, .string (natS m.n), .int .i64 m.x, .int .i64 y, .bool g.re.g, .string (natS g.re.n), .int .i64 g.re.x, .bool g.im.g, .string (natS g.im.n), .int .i64 g.im.x, .bool (pw y).g, .string (natS (pw y).n), .int .i64 (pw y).x, .bool (addD l (pw y)).g, .string (natS (addD l (pw y)).n), .int .i64 (addD l (pw y)).x, .int .i64 (addE l (pw y)), .bool (addD m (pw y)).g, .string (natS (addD m (pw y)).n), .int .i64 (addD m (pw y)).x, .int .i64 (addE m (pw y))] rfl
  have hops : OpsT Tryz.prog (@Know.ops (VHolds_e_k b1 b2)) := ⟨opt_neq_i rfl rfl i1,
    opt_neq_i rfl rfl i2,
    trivial⟩
  have hcalls : CallsT Tryz.prog (@Know.calls (VHolds_e_k b1 b2)) := ⟨callt rfl rfl fun w hG => VRight_ok l m y w hl hm ⟨by omega, by omega⟩ hG,
    callt rfl rfl fun w hG => GCheck_gs g hg w hG,
    callt rfl rfl fun w hG => halves_2 y w ⟨by omega, by omega⟩ hG,
    callt rfl rfl fun w hG => DAdd_c l (pw y) w hl (pw_Ok _) hG,
    callt rfl rfl fun w hG => DAdd_c m (pw y) w hm (pw_Ok _) hG,
    trivial⟩
  have fin : ∀ v, @comes (VHolds_e_k b1 b2) Tryz.prog glT 3000 VHolds_e_f VHolds_e_a = some v → ground v = true → Ending.returned (gval v) = .returned (.tuple #[.bool false, .int .i64 4]) → Calls Tryz.prog 13 #[.agg #[.bool l.g, .string (natS l.n), .int .i64 l.x, .bool m.g, .string (natS m.n), .int .i64 m.x, .int .i64 y], .agg #[.bool g.re.g, .string (natS g.re.n), .int .i64 g.re.x, .bool g.im.g, .string (natS g.im.n), .int .i64 g.im.x]] w fun e w' => e = .returned (.tuple #[.bool false, .int .i64 4]) ∧ Below w.heap.size w w' := fun v h1 h2 h3 => (@sym_ok _ (VHolds_e_k b1 b2) _ (@KnowOk.of _ (VHolds_e_k b1 b2) _ hops hcalls) (by kernel_rfl) _ _ _ _ h1 rfl h2 _ hG).mono fun e w' h => ⟨h.1.trans h3, h.2⟩
  clear hops hcalls
  cases b1 with
  | true =>
    have h1 : addE l (pw y) = 0 := i1.1 rfl
    cases b2 with
    | true =>
      exact absurd (i2.1 rfl) (fun c => hn ⟨h1, c⟩)
    | false =>
      have h2 : ¬ (addE m (pw y) = 0) := fun c => Bool.false_ne_true (i2.2 c)
      exact fin _ (VHolds_e_r1) rfl rfl
  | false =>
    have h1 : ¬ (addE l (pw y) = 0) := fun c => Bool.false_ne_true (i1.2 c)
    exact fin _ (VHolds_e_r2 b2) rfl rfl
@[reducible] def VHolds_t_f : FuncId := 13
@[reducible] def VHolds_t_a : List AV := [.agg [.sym 0, .sym 1, .sym 2, .sym 3, .sym 4, .sym 5, .sym 6], .agg [.sym 7, .sym 8, .sym 9, .sym 10, .sym 11, .sym 12]]
@[reducible] noncomputable def VHolds_t_k : Know := ⟨[([0, 12, 31], [.sym 19, .lit (.int .i64 0)], .lit (.bool false)),
  ([0, 12, 31], [.sym 23, .lit (.int .i64 0)], .lit (.bool false)),
  ([0, 14, 3], [.sym 24, .lit (.int .i64 0)], .lit (.bool true)),
  ([0, 14, 3], [.sym 25, .lit (.int .i64 0)], .lit (.bool true)),
  ([0, 14, 3], [.sym 26, .lit (.int .i64 0)], .lit (.bool true)),
  ([0, 14, 3], [.sym 27, .lit (.int .i64 0)], .lit (.bool true))],
  [(32, [.agg [.sym 0, .sym 1, .sym 2, .sym 3, .sym 4, .sym 5, .sym 6]], .lit (.int .i64 0)),
  (19, [.agg [.sym 7, .sym 8, .sym 9, .sym 10, .sym 11, .sym 12]], .lit (.int .i64 0)),
  (39, [.lit (.int .i64 2), .sym 6], .agg [.sym 13, .sym 14, .sym 15]),
  (38, [.agg [.sym 0, .sym 1, .sym 2], .agg [.sym 13, .sym 14, .sym 15]], .tup [.agg [.sym 16, .sym 17, .sym 18], .sym 19]),
  (38, [.agg [.sym 3, .sym 4, .sym 5], .agg [.sym 13, .sym 14, .sym 15]], .tup [.agg [.sym 20, .sym 21, .sym 22], .sym 23]),
  (14, [.agg [.sym 0, .sym 1, .sym 2], .agg [.sym 7, .sym 8, .sym 9]], .tup [.sym 24, .lit (.int .i64 0)]),
  (14, [.agg [.sym 7, .sym 8, .sym 9], .agg [.sym 16, .sym 17, .sym 18]], .tup [.sym 25, .lit (.int .i64 0)]),
  (14, [.agg [.sym 3, .sym 4, .sym 5], .agg [.sym 10, .sym 11, .sym 12]], .tup [.sym 26, .lit (.int .i64 0)]),
  (14, [.agg [.sym 10, .sym 11, .sym 12], .agg [.sym 20, .sym 21, .sym 22]], .tup [.sym 27, .lit (.int .i64 0)])]⟩
theorem VHolds_t_r1 : @comes VHolds_t_k Tryz.prog glT 3000 VHolds_t_f VHolds_t_a = some (.lit (.tuple #[.bool true, .int .i64 0])) := by kernel_rfl
set_option maxRecDepth 100000 in
set_option maxHeartbeats 4000000 in
theorem VHolds_t (l m : Dy) (y : Int) (g : Gs) (w : World) (hl : l.Ok) (hm : m.Ok) (he : -4096 ≤ y ∧ y ≤ 4096) (hg : g.Ok) (k3 : addE l (pw y) = 0) (k4 : addE m (pw y) = 0) (c1 : cmpD l g.re ≤ 0) (c2 : cmpD g.re (addD l (pw y)) ≤ 0) (c3 : cmpD m g.im ≤ 0) (c4 : cmpD g.im (addD m (pw y)) ≤ 0) (hG : Globs glT w) : Calls Tryz.prog 13 #[.agg #[.bool l.g, .string (natS l.n), .int .i64 l.x, .bool m.g, .string (natS m.n), .int .i64 m.x, .int .i64 y], .agg #[.bool g.re.g, .string (natS g.re.n), .int .i64 g.re.x, .bool g.im.g, .string (natS g.im.n), .int .i64 g.im.x]] w fun e w' => e = .returned (.tuple #[.bool true, .int .i64 0]) ∧ Below w.heap.size w w' := by
  have h1 : addE l (pw y) = 0 := k3
  have i1 : true = true ↔ (addE l (pw y) = 0) := ⟨fun _ => h1, fun _ => rfl⟩
  have h2 : addE m (pw y) = 0 := k4
  have i2 : true = true ↔ (addE m (pw y) = 0) := ⟨fun _ => h2, fun _ => rfl⟩
  have h3 : cmpD l g.re ≤ 0 := c1
  have i3 : true = true ↔ (cmpD l g.re ≤ 0) := ⟨fun _ => h3, fun _ => rfl⟩
  have h4 : cmpD g.re (addD l (pw y)) ≤ 0 := c2
  have i4 : true = true ↔ (cmpD g.re (addD l (pw y)) ≤ 0) := ⟨fun _ => h4, fun _ => rfl⟩
  have h5 : cmpD m g.im ≤ 0 := c3
  have i5 : true = true ↔ (cmpD m g.im ≤ 0) := ⟨fun _ => h5, fun _ => rfl⟩
  have h6 : cmpD g.im (addD m (pw y)) ≤ 0 := c4
  have i6 : true = true ↔ (cmpD g.im (addD m (pw y)) ≤ 0) := ⟨fun _ => h6, fun _ => rfl⟩
  letI : Env := mkEnv glT [.bool l.g, .string (natS l.n), .int .i64 l.x, .bool m.g, .string (natS m.n), .int .i64 m.x, .int .i64 y, .bool g.re.g, .string (natS g.re.n), .int .i64 g.re.x, .bool g.im.g, .string (natS g.im.n), .int .i64 g.im.x, .bool (pw y).g, .string (natS (pw y).n), .int .i64 (pw y).x, .bool (addD l (pw y)).g, .string (natS (addD l (pw y)).n), .int .i64 (addD l (pw y)).x, .int .i64 (addE l (pw y)), .bool (addD m (pw y)).g, .string (natS (addD m (pw y)).n), .int .i64 (addD m (pw y)).x, .int .i64 (addE m (pw y)), .int .i64 (cmpD l g.re), .int .i64 (cmpD g.re (addD l (pw y))), .int .i64 (cmpD m g.im), .int .i64 (cmpD g.im (addD m (pw y)))] rfl
  have hops : OpsT Tryz.prog (@Know.ops VHolds_t_k) := ⟨opt_neq_i rfl rfl i1,
    opt_neq_i rfl rfl i2,
    opt_leq_i rfl rfl i3,
    opt_leq_i rfl rfl i4,
    opt_leq_i rfl rfl i5,
    opt_leq_i rfl rfl i6,
    trivial⟩
  have hcalls : CallsT Tryz.prog (@Know.calls VHolds_t_k) := ⟨callt rfl rfl fun w hG => VRight_ok l m y w hl hm ⟨by omega, by omega⟩ hG,
    callt rfl rfl fun w hG => GCheck_gs g hg w hG,
    callt rfl rfl fun w hG => halves_2 y w ⟨by omega, by omega⟩ hG,
    callt rfl rfl fun w hG => DAdd_c l (pw y) w hl (pw_Ok _) hG,
    callt rfl rfl fun w hG => DAdd_c m (pw y) w hm (pw_Ok _) hG,
    callt rfl rfl fun w hG => DCmp_c l g.re w hl hg.1,
    callt rfl rfl fun w hG => DCmp_c g.re (addD l (pw y)) w hg.1 (add_Ok hl (pw_Ok _)),
    callt rfl rfl fun w hG => DCmp_c m g.im w hm hg.2,
    callt rfl rfl fun w hG => DCmp_c g.im (addD m (pw y)) w hg.2 (add_Ok hm (pw_Ok _)),
    trivial⟩
  have fin : ∀ v, @comes VHolds_t_k Tryz.prog glT 3000 VHolds_t_f VHolds_t_a = some v → ground v = true → Ending.returned (gval v) = .returned (.tuple #[.bool true, .int .i64 0]) → Calls Tryz.prog 13 #[.agg #[.bool l.g, .string (natS l.n), .int .i64 l.x, .bool m.g, .string (natS m.n), .int .i64 m.x, .int .i64 y], .agg #[.bool g.re.g, .string (natS g.re.n), .int .i64 g.re.x, .bool g.im.g, .string (natS g.im.n), .int .i64 g.im.x]] w fun e w' => e = .returned (.tuple #[.bool true, .int .i64 0]) ∧ Below w.heap.size w w' := fun v h1 h2 h3 => (@sym_ok _ VHolds_t_k _ (@KnowOk.of _ VHolds_t_k _ hops hcalls) (by kernel_rfl) _ _ _ _ h1 rfl h2 _ hG).mono fun e w' h => ⟨h.1.trans h3, h.2⟩
  clear hops hcalls
  exact fin _ (VHolds_t_r1) rfl rfl
@[reducible] def VHolds_f_f : FuncId := 13
@[reducible] def VHolds_f_a : List AV := [.agg [.sym 0, .sym 1, .sym 2, .sym 3, .sym 4, .sym 5, .sym 6], .agg [.sym 7, .sym 8, .sym 9, .sym 10, .sym 11, .sym 12]]
@[reducible] noncomputable def VHolds_f_k (b3 b4 b5 b6 : Bool) : Know := ⟨[([0, 12, 31], [.sym 19, .lit (.int .i64 0)], .lit (.bool false)),
  ([0, 12, 31], [.sym 23, .lit (.int .i64 0)], .lit (.bool false)),
  ([0, 14, 3], [.sym 24, .lit (.int .i64 0)], .lit (.bool b3)),
  ([0, 14, 3], [.sym 25, .lit (.int .i64 0)], .lit (.bool b4)),
  ([0, 14, 3], [.sym 26, .lit (.int .i64 0)], .lit (.bool b5)),
  ([0, 14, 3], [.sym 27, .lit (.int .i64 0)], .lit (.bool b6))],
  [(32, [.agg [.sym 0, .sym 1, .sym 2, .sym 3, .sym 4, .sym 5, .sym 6]], .lit (.int .i64 0)),
  (19, [.agg [.sym 7, .sym 8, .sym 9, .sym 10, .sym 11, .sym 12]], .lit (.int .i64 0)),
  (39, [.lit (.int .i64 2), .sym 6], .agg [.sym 13, .sym 14, .sym 15]),
  (38, [.agg [.sym 0, .sym 1, .sym 2], .agg [.sym 13, .sym 14, .sym 15]], .tup [.agg [.sym 16, .sym 17, .sym 18], .sym 19]),
  (38, [.agg [.sym 3, .sym 4, .sym 5], .agg [.sym 13, .sym 14, .sym 15]], .tup [.agg [.sym 20, .sym 21, .sym 22], .sym 23]),
  (14, [.agg [.sym 0, .sym 1, .sym 2], .agg [.sym 7, .sym 8, .sym 9]], .tup [.sym 24, .lit (.int .i64 0)]),
  (14, [.agg [.sym 7, .sym 8, .sym 9], .agg [.sym 16, .sym 17, .sym 18]], .tup [.sym 25, .lit (.int .i64 0)]),
  (14, [.agg [.sym 3, .sym 4, .sym 5], .agg [.sym 10, .sym 11, .sym 12]], .tup [.sym 26, .lit (.int .i64 0)]),
  (14, [.agg [.sym 10, .sym 11, .sym 12], .agg [.sym 20, .sym 21, .sym 22]], .tup [.sym 27, .lit (.int .i64 0)])]⟩
theorem VHolds_f_r1 : @comes (VHolds_f_k true true true false) Tryz.prog glT 3000 VHolds_f_f VHolds_f_a = some (.lit (.tuple #[.bool false, .int .i64 0])) := by kernel_rfl
theorem VHolds_f_r2 (b6 : Bool) : @comes (VHolds_f_k true true false b6) Tryz.prog glT 3000 VHolds_f_f VHolds_f_a = some (.lit (.tuple #[.bool false, .int .i64 0])) := by kernel_rfl
theorem VHolds_f_r3 (b5 b6 : Bool) : @comes (VHolds_f_k true false b5 b6) Tryz.prog glT 3000 VHolds_f_f VHolds_f_a = some (.lit (.tuple #[.bool false, .int .i64 0])) := by kernel_rfl
theorem VHolds_f_r4 (b4 b5 b6 : Bool) : @comes (VHolds_f_k false b4 b5 b6) Tryz.prog glT 3000 VHolds_f_f VHolds_f_a = some (.lit (.tuple #[.bool false, .int .i64 0])) := by kernel_rfl
set_option maxRecDepth 100000 in
set_option maxHeartbeats 4000000 in
theorem VHolds_f (l m : Dy) (y : Int) (g : Gs) (w : World) (hl : l.Ok) (hm : m.Ok) (he : -4096 ≤ y ∧ y ≤ 4096) (hg : g.Ok) (k3 : addE l (pw y) = 0) (k4 : addE m (pw y) = 0) (hn : ¬ (cmpD l g.re ≤ 0 ∧ cmpD g.re (addD l (pw y)) ≤ 0 ∧ cmpD m g.im ≤ 0 ∧ cmpD g.im (addD m (pw y)) ≤ 0)) (hG : Globs glT w) : Calls Tryz.prog 13 #[.agg #[.bool l.g, .string (natS l.n), .int .i64 l.x, .bool m.g, .string (natS m.n), .int .i64 m.x, .int .i64 y], .agg #[.bool g.re.g, .string (natS g.re.n), .int .i64 g.re.x, .bool g.im.g, .string (natS g.im.n), .int .i64 g.im.x]] w fun e w' => e = .returned (.tuple #[.bool false, .int .i64 0]) ∧ Below w.heap.size w w' := by
  have h1 : addE l (pw y) = 0 := k3
  have i1 : true = true ↔ (addE l (pw y) = 0) := ⟨fun _ => h1, fun _ => rfl⟩
  have h2 : addE m (pw y) = 0 := k4
  have i2 : true = true ↔ (addE m (pw y) = 0) := ⟨fun _ => h2, fun _ => rfl⟩
  obtain ⟨b3, i3⟩ := bex (cmpD l g.re ≤ 0)
  obtain ⟨b4, i4⟩ := bex (cmpD g.re (addD l (pw y)) ≤ 0)
  obtain ⟨b5, i5⟩ := bex (cmpD m g.im ≤ 0)
  obtain ⟨b6, i6⟩ := bex (cmpD g.im (addD m (pw y)) ≤ 0)
  letI : Env := mkEnv glT [.bool l.g, .string (natS l.n), .int .i64 l.x, .bool m.g, .string (natS m.n), .int .i64 m.x, .int .i64 y, .bool g.re.g, .string (natS g.re.n), .int .i64 g.re.x, .bool g.im.g, .string (natS g.im.n), .int .i64 g.im.x, .bool (pw y).g, .string (natS (pw y).n), .int .i64 (pw y).x, .bool (addD l (pw y)).g, .string (natS (addD l (pw y)).n), .int .i64 (addD l (pw y)).x, .int .i64 (addE l (pw y)), .bool (addD m (pw y)).g, .string (natS (addD m (pw y)).n), .int .i64 (addD m (pw y)).x, .int .i64 (addE m (pw y)), .int .i64 (cmpD l g.re), .int .i64 (cmpD g.re (addD l (pw y))), .int .i64 (cmpD m g.im), .int .i64 (cmpD g.im (addD m (pw y)))] rfl
  have hops : OpsT Tryz.prog (@Know.ops (VHolds_f_k b3 b4 b5 b6)) := ⟨opt_neq_i rfl rfl i1,
    opt_neq_i rfl rfl i2,
    opt_leq_i rfl rfl i3,
    opt_leq_i rfl rfl i4,
    opt_leq_i rfl rfl i5,
    opt_leq_i rfl rfl i6,
    trivial⟩
  have hcalls : CallsT Tryz.prog (@Know.calls (VHolds_f_k b3 b4 b5 b6)) := ⟨callt rfl rfl fun w hG => VRight_ok l m y w hl hm ⟨by omega, by omega⟩ hG,
    callt rfl rfl fun w hG => GCheck_gs g hg w hG,
    callt rfl rfl fun w hG => halves_2 y w ⟨by omega, by omega⟩ hG,
    callt rfl rfl fun w hG => DAdd_c l (pw y) w hl (pw_Ok _) hG,
    callt rfl rfl fun w hG => DAdd_c m (pw y) w hm (pw_Ok _) hG,
    callt rfl rfl fun w hG => DCmp_c l g.re w hl hg.1,
    callt rfl rfl fun w hG => DCmp_c g.re (addD l (pw y)) w hg.1 (add_Ok hl (pw_Ok _)),
    callt rfl rfl fun w hG => DCmp_c m g.im w hm hg.2,
    callt rfl rfl fun w hG => DCmp_c g.im (addD m (pw y)) w hg.2 (add_Ok hm (pw_Ok _)),
    trivial⟩
  have fin : ∀ v, @comes (VHolds_f_k b3 b4 b5 b6) Tryz.prog glT 3000 VHolds_f_f VHolds_f_a = some v → ground v = true → Ending.returned (gval v) = .returned (.tuple #[.bool false, .int .i64 0]) → Calls Tryz.prog 13 #[.agg #[.bool l.g, .string (natS l.n), .int .i64 l.x, .bool m.g, .string (natS m.n), .int .i64 m.x, .int .i64 y], .agg #[.bool g.re.g, .string (natS g.re.n), .int .i64 g.re.x, .bool g.im.g, .string (natS g.im.n), .int .i64 g.im.x]] w fun e w' => e = .returned (.tuple #[.bool false, .int .i64 0]) ∧ Below w.heap.size w w' := fun v h1 h2 h3 => (@sym_ok _ (VHolds_f_k b3 b4 b5 b6) _ (@KnowOk.of _ (VHolds_f_k b3 b4 b5 b6) _ hops hcalls) (by kernel_rfl) _ _ _ _ h1 rfl h2 _ hG).mono fun e w' h => ⟨h.1.trans h3, h.2⟩
  clear hops hcalls
  cases b3 with
  | true =>
    have h3 : cmpD l g.re ≤ 0 := i3.1 rfl
    cases b4 with
    | true =>
      have h4 : cmpD g.re (addD l (pw y)) ≤ 0 := i4.1 rfl
      cases b5 with
      | true =>
        have h5 : cmpD m g.im ≤ 0 := i5.1 rfl
        cases b6 with
        | true =>
          exact absurd (i6.1 rfl) (fun c => hn ⟨h3, h4, h5, c⟩)
        | false =>
          have h6 : ¬ (cmpD g.im (addD m (pw y)) ≤ 0) := fun c => Bool.false_ne_true (i6.2 c)
          exact fin _ (VHolds_f_r1) rfl rfl
      | false =>
        have h5 : ¬ (cmpD m g.im ≤ 0) := fun c => Bool.false_ne_true (i5.2 c)
        exact fin _ (VHolds_f_r2 b6) rfl rfl
    | false =>
      have h4 : ¬ (cmpD g.re (addD l (pw y)) ≤ 0) := fun c => Bool.false_ne_true (i4.2 c)
      exact fin _ (VHolds_f_r3 b5 b6) rfl rfl
  | false =>
    have h3 : ¬ (cmpD l g.re ≤ 0) := fun c => Bool.false_ne_true (i3.2 c)
    exact fin _ (VHolds_f_r4 b4 b5 b6) rfl rfl
@[reducible] def VHolds_g_f : FuncId := 13
@[reducible] def VHolds_g_a : List AV := [.agg [.sym 0, .sym 1, .sym 2, .sym 3, .sym 4, .sym 5, .sym 6], .agg [.sym 7, .sym 8, .sym 9, .sym 10, .sym 11, .sym 12]]
@[reducible] noncomputable def VHolds_g_k : Know := ⟨[],
  [(32, [.agg [.sym 0, .sym 1, .sym 2, .sym 3, .sym 4, .sym 5, .sym 6]], .lit (.int .i64 0)),
  (19, [.agg [.sym 7, .sym 8, .sym 9, .sym 10, .sym 11, .sym 12]], .lit (.int .i64 2))]⟩
theorem VHolds_g_r1 : @comes VHolds_g_k Tryz.prog glT 3000 VHolds_g_f VHolds_g_a = some (.lit (.tuple #[.bool false, .int .i64 2])) := by kernel_rfl
set_option maxRecDepth 100000 in
set_option maxHeartbeats 4000000 in
theorem VHolds_g (l m : Dy) (y : Int) (g : Gt) (w : World) (hl : l.Ok) (hm : m.Ok) (he : -4096 ≤ y ∧ y ≤ 4096) (zg : g.Small) (hn : ¬ g.Ok) (hG : Globs glT w) : Calls Tryz.prog 13 #[.agg #[.bool l.g, .string (natS l.n), .int .i64 l.x, .bool m.g, .string (natS m.n), .int .i64 m.x, .int .i64 y], .agg #[.bool g.re.g, .string g.re.s, .int .i64 g.re.x, .bool g.im.g, .string g.im.s, .int .i64 g.im.x]] w fun e w' => e = .returned (.tuple #[.bool false, .int .i64 2]) ∧ Below w.heap.size w w' := by
  letI : Env := mkEnv glT [.bool l.g, .string (natS l.n), .int .i64 l.x, .bool m.g, .string (natS m.n), .int .i64 m.x, .int .i64 y, .bool g.re.g, .string g.re.s, .int .i64 g.re.x, .bool g.im.g, .string g.im.s, .int .i64 g.im.x] rfl
  have hops : OpsT Tryz.prog (@Know.ops VHolds_g_k) := trivial
  have hcalls : CallsT Tryz.prog (@Know.calls VHolds_g_k) := ⟨callt rfl rfl fun w hG => VRight_ok l m y w hl hm ⟨by omega, by omega⟩ hG,
    callt rfl rfl fun w hG => GCheck_no g zg hn w hG,
    trivial⟩
  have fin : ∀ v, @comes VHolds_g_k Tryz.prog glT 3000 VHolds_g_f VHolds_g_a = some v → ground v = true → Ending.returned (gval v) = .returned (.tuple #[.bool false, .int .i64 2]) → Calls Tryz.prog 13 #[.agg #[.bool l.g, .string (natS l.n), .int .i64 l.x, .bool m.g, .string (natS m.n), .int .i64 m.x, .int .i64 y], .agg #[.bool g.re.g, .string g.re.s, .int .i64 g.re.x, .bool g.im.g, .string g.im.s, .int .i64 g.im.x]] w fun e w' => e = .returned (.tuple #[.bool false, .int .i64 2]) ∧ Below w.heap.size w w' := fun v h1 h2 h3 => (@sym_ok _ VHolds_g_k _ (@KnowOk.of _ VHolds_g_k _ hops hcalls) (by kernel_rfl) _ _ _ _ h1 rfl h2 _ hG).mono fun e w' h => ⟨h.1.trans h3, h.2⟩
  clear hops hcalls
  exact fin _ (VHolds_g_r1) rfl rfl
end Go.Proofs.YtamcnnocjelcjaaGreatDoor
