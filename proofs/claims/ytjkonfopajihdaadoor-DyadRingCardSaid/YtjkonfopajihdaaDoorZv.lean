/- Texts put together: Sy SyD SyE Al03. -/
import Derived.Test.YtjkonfopajihdaaDoorZg
import Derived.Test.YtjkonfopajihdaaDoorZi
import Derived.Test.YtjkonfopajihdaaDoorZt
import Derived.Test.YtjkonfopajihdaaDoorZb
import Derived.Test.YtjkonfopajihdaaDoorZl
set_option linter.unusedVariables false
set_option linter.unusedSimpArgs false
namespace Go.Proofs.YtjkonfopajihdaaDoor
open Go Go.RowKit

theorem bex (p : Prop) : ∃ b : Bool, b = true ↔ p := by
  by_cases h : p
  · exact ⟨true, by simp [h]⟩
  · exact ⟨false, by simp [h]⟩
def envL (l : List Value) (i : Nat) : Value := l.getD i (.int .i64 0)
theorem envL_flat {l : List Value} (h : l.all (·.oneCell') = true) : ∀ i, (envL l i).oneCell' = true := by
  intro i
  unfold envL
  rw [List.getD_eq_getElem?_getD]
  cases hi : l[i]? with
  | none => rfl
  | some v =>
    rw [List.all_eq_true] at h
    exact h v (List.mem_of_getElem? hi)
@[reducible] def mkEnv (gl : List (Nat × List AV)) (l : List Value) (h : l.all (·.oneCell') = true) : Env := ⟨envL l, envL_flat h, gl⟩
section
variable [Env]
def OpT (P : Program) (k : List Nat) (l : List AV) (r : AV) : Prop :=
  ground r = true ∧ ∀ (o : Oper) xs, keyOf o = some (k, xs) → ∀ ρ : Operand → Value, xs.map ρ = l.map gval → ∀ w, (execOp ρ o).run P w = .ok (.value (gval r)) w
def CallT (P : Program) (g : FuncId) (l : List AV) (r : AV) : Prop :=
  ground r = true ∧ ∀ w xs, Globs Env.gl w → ARels w l xs → Calls P g xs.toArray w fun e w' => e = .returned (gval r) ∧ Below w.heap.size w w'
theorem callt {P : Program} {g : FuncId} {l : List AV} {r : AV} (hl : l.all ground = true) (hr : ground r = true) (h : ∀ w, Globs Env.gl w → Calls P g (l.map gval).toArray w fun e w' => e = .returned (gval r) ∧ Below w.heap.size w w') : CallT P g l r :=
  ⟨hr, fun w xs hG hx => by rw [@ARels.plain _ noKnow _ _ hl _ hx]; exact h w hG⟩
/-- One row of whole numbers and the like, all of it. -/
theorem callt_row {P : Program} {g : FuncId} {n : Nat} {cells : List AV} {r : AV} (hr : ground r = true) (h : ∀ w b c, Globs Env.gl w → b < w.heap.size → (∀ j v, cells[j]? = some v → w.cell? ⟨b, j, none⟩ = some (gval1 v)) → Calls P g #[.slice (some ⟨b, 0, none⟩) n c] w fun e w' => e = .returned (gval r) ∧ Below w.heap.size w w') : CallT P g [.row n 0 cells] r :=
  ⟨hr, fun w xs hG hx => by
    obtain ⟨y, ys, rfl, ⟨b, c, rfl, h1, h2⟩, rfl⟩ := hx
    exact h w b c hG h1 (fun j v hj => by have := h2 j v hj; rwa [Nat.zero_add] at this)⟩
def OpsT (P : Program) : List (List Nat × List AV × AV) → Prop
  | [] => True
  | p :: t => OpT P p.1 p.2.1 p.2.2 ∧ OpsT P t
def CallsT (P : Program) : List (FuncId × List AV × AV) → Prop
  | [] => True
  | p :: t => CallT P p.1 p.2.1 p.2.2 ∧ CallsT P t
theorem OpsT.mem {P : Program} : ∀ {t : List (List Nat × List AV × AV)}, OpsT P t → ∀ {k l r}, (k, l, r) ∈ t → OpT P k l r
  | [], _, _, _, _, h => by cases h
  | p :: t, hp, k, l, r, h => by
    rcases List.mem_cons.1 h with e | h
    · subst e; exact hp.1
    · exact OpsT.mem hp.2 h
theorem CallsT.mem {P : Program} : ∀ {t : List (FuncId × List AV × AV)}, CallsT P t → ∀ {k l r}, (k, l, r) ∈ t → CallT P k l r
  | [], _, _, _, _, h => by cases h
  | p :: t, hp, k, l, r, h => by
    rcases List.mem_cons.1 h with e | h
    · subst e; exact hp.1
    · exact CallsT.mem hp.2 h
theorem KnowOk.of [Know] {P : Program} (h1 : OpsT P Know.ops) (h2 : CallsT P Know.calls) : KnowOk P := ⟨fun k l r h => h1.mem h, fun k l r h => h2.mem h⟩
/-- A binary operation at values that are named. -/
theorem opt_bin {P : Program} {op : BinOp} {t : TypeId} {a b r : AV} (hr : ground r = true) (h : ∀ x y w, (do eqGuard op t x y (gval a) (gval b); binOp op t (gval a) (gval b)).run P w = .ok (gval r) w) : OpT P [0, binKey op, t] [a, b] r := by
  refine ⟨hr, fun o xs hk ρ hx w => ?_⟩
  unfold keyOf at hk
  obtain ⟨dst, o, type, pos, after, guard⟩ := o
  simp only at hk
  split at hk
  · rename_i op' t' x y yt
    simp only [Option.some.injEq, Prod.mk.injEq, List.cons.injEq, and_true, true_and] at hk
    obtain ⟨⟨h1, h2⟩, h3⟩ := hk
    subst h2 h3
    have ho : op' = op := by cases op' <;> cases op <;> first | rfl | cases h1
    subst ho
    simp only [List.map_cons, List.map_nil, List.cons.injEq, and_true] at hx
    obtain ⟨e1, e2⟩ := hx
    have := h x y w
    simp only [execOp, e1, e2, Sem.run_bind, Sem.run_pure] at this ⊢
    rw [this]; rfl
  all_goals first
    | (simp only [Option.some.injEq, Prod.mk.injEq, List.cons.injEq] at hk; have := hk.1.1; omega)
    | (split at hk <;> first | cases hk | (simp only [Option.some.injEq, Prod.mk.injEq, List.cons.injEq] at hk; have := hk.1.1; omega))
    | cases hk
theorem opt_int {P : Program} {op : BinOp} {t : TypeId} {a b r : AV} {k : IntKind} {x y : Int} {v : Value} (ha : gval a = .int k x) (hb : gval b = .int k y) (hr : ground r = true) (hv : gval r = v) (h : ∀ w, (binOp op t (.int k x) (.int k y)).run P w = .ok v w) : OpT P [0, binKey op, t] [a, b] r := by
  refine opt_bin hr fun p q w => ?_
  rw [ha, hb, hv]
  simp only [Sem.run_bind, eqGuard_int, Result.andThen_ok]
  exact h w
theorem opt_eql {P : Program} {t : TypeId} {a b : AV} {k : IntKind} {x y : Int} {c : Bool} (ha : gval a = .int k x) (hb : gval b = .int k y) (h : (x == y) = c) : OpT P [0, 11, t] [a, b] (.lit (.bool c)) :=
  opt_int (op := .eql) ha hb rfl rfl fun w => by rw [← h]; simp [binOp, Op.intCmp, gval, gval2, gval1]
theorem opt_neq {P : Program} {t : TypeId} {a b : AV} {k : IntKind} {x y : Int} {c : Bool} (ha : gval a = .int k x) (hb : gval b = .int k y) (h : (x != y) = c) : OpT P [0, 12, t] [a, b] (.lit (.bool c)) :=
  opt_int (op := .neq) ha hb rfl rfl fun w => by rw [← h]; simp [binOp, Op.intCmp, gval, gval2, gval1]
theorem opt_lss {P : Program} {t : TypeId} {a b : AV} {k : IntKind} {x y : Int} {c : Bool} (ha : gval a = .int k x) (hb : gval b = .int k y) (h : decide (x < y) = c) : OpT P [0, 13, t] [a, b] (.lit (.bool c)) :=
  opt_int (op := .lss) ha hb rfl rfl fun w => by rw [← h]; simp [binOp, Op.intCmp, gval, gval2, gval1]
theorem opt_leq {P : Program} {t : TypeId} {a b : AV} {k : IntKind} {x y : Int} {c : Bool} (ha : gval a = .int k x) (hb : gval b = .int k y) (h : decide (x ≤ y) = c) : OpT P [0, 14, t] [a, b] (.lit (.bool c)) :=
  opt_int (op := .leq) ha hb rfl rfl fun w => by rw [← h]; simp [binOp, Op.intCmp, gval, gval2, gval1]
theorem opt_gtr {P : Program} {t : TypeId} {a b : AV} {k : IntKind} {x y : Int} {c : Bool} (ha : gval a = .int k x) (hb : gval b = .int k y) (h : decide (x > y) = c) : OpT P [0, 15, t] [a, b] (.lit (.bool c)) :=
  opt_int (op := .gtr) ha hb rfl rfl fun w => by rw [← h]; simp [binOp, Op.intCmp, gval, gval2, gval1]
theorem opt_geq {P : Program} {t : TypeId} {a b : AV} {k : IntKind} {x y : Int} {c : Bool} (ha : gval a = .int k x) (hb : gval b = .int k y) (h : decide (x ≥ y) = c) : OpT P [0, 16, t] [a, b] (.lit (.bool c)) :=
  opt_int (op := .geq) ha hb rfl rfl fun w => by rw [← h]; simp [binOp, Op.intCmp, gval, gval2, gval1]
theorem opt_eql_i {P : Program} {t : TypeId} {a b : AV} {k : IntKind} {x y : Int} {c : Bool} (ha : gval a = .int k x) (hb : gval b = .int k y) (h : c = true ↔ x = y) : OpT P [0, 11, t] [a, b] (.lit (.bool c)) := opt_eql ha hb (by rw [Bool.eq_iff_iff, h]; exact beq_iff_eq)
theorem opt_neq_i {P : Program} {t : TypeId} {a b : AV} {k : IntKind} {x y : Int} {c : Bool} (ha : gval a = .int k x) (hb : gval b = .int k y) (h : c = true ↔ x = y) : OpT P [0, 12, t] [a, b] (.lit (.bool (!c))) := opt_neq ha hb (by rw [bne, show (x == y) = c from by rw [Bool.eq_iff_iff, h]; exact beq_iff_eq])
theorem opt_lss_i {P : Program} {t : TypeId} {a b : AV} {k : IntKind} {x y : Int} {c : Bool} (ha : gval a = .int k x) (hb : gval b = .int k y) (h : c = true ↔ x < y) : OpT P [0, 13, t] [a, b] (.lit (.bool c)) := opt_lss ha hb (by rw [Bool.eq_iff_iff, h]; exact decide_eq_true_iff)
theorem opt_leq_i {P : Program} {t : TypeId} {a b : AV} {k : IntKind} {x y : Int} {c : Bool} (ha : gval a = .int k x) (hb : gval b = .int k y) (h : c = true ↔ x ≤ y) : OpT P [0, 14, t] [a, b] (.lit (.bool c)) := opt_leq ha hb (by rw [Bool.eq_iff_iff, h]; exact decide_eq_true_iff)
theorem opt_gtr_i {P : Program} {t : TypeId} {a b : AV} {k : IntKind} {x y : Int} {c : Bool} (ha : gval a = .int k x) (hb : gval b = .int k y) (h : c = true ↔ x > y) : OpT P [0, 15, t] [a, b] (.lit (.bool c)) := opt_gtr ha hb (by rw [Bool.eq_iff_iff, h]; exact decide_eq_true_iff)
theorem opt_geq_i {P : Program} {t : TypeId} {a b : AV} {k : IntKind} {x y : Int} {c : Bool} (ha : gval a = .int k x) (hb : gval b = .int k y) (h : c = true ↔ x ≥ y) : OpT P [0, 16, t] [a, b] (.lit (.bool c)) := opt_geq ha hb (by rw [Bool.eq_iff_iff, h]; exact decide_eq_true_iff)
theorem opt_eql_t {P : Program} {t : TypeId} {a b : AV} {k : IntKind} {x y : Int} (ha : gval a = .int k x) (hb : gval b = .int k y) (h : x = y) : OpT P [0, 11, t] [a, b] (.lit (.bool true)) := opt_eql ha hb (beq_iff_eq.2 h)
theorem opt_eql_f {P : Program} {t : TypeId} {a b : AV} {k : IntKind} {x y : Int} (ha : gval a = .int k x) (hb : gval b = .int k y) (h : ¬ x = y) : OpT P [0, 11, t] [a, b] (.lit (.bool false)) := opt_eql ha hb (beq_eq_false_iff_ne.2 h)
theorem opt_neq_t {P : Program} {t : TypeId} {a b : AV} {k : IntKind} {x y : Int} (ha : gval a = .int k x) (hb : gval b = .int k y) (h : ¬ x = y) : OpT P [0, 12, t] [a, b] (.lit (.bool true)) := opt_neq ha hb (by rw [bne, beq_eq_false_iff_ne.2 h]; rfl)
theorem opt_neq_f {P : Program} {t : TypeId} {a b : AV} {k : IntKind} {x y : Int} (ha : gval a = .int k x) (hb : gval b = .int k y) (h : x = y) : OpT P [0, 12, t] [a, b] (.lit (.bool false)) := opt_neq ha hb (by rw [bne, beq_iff_eq.2 h]; rfl)
theorem opt_lss_t {P : Program} {t : TypeId} {a b : AV} {k : IntKind} {x y : Int} (ha : gval a = .int k x) (hb : gval b = .int k y) (h : x < y) : OpT P [0, 13, t] [a, b] (.lit (.bool true)) := opt_lss ha hb (decide_eq_true h)
theorem opt_lss_f {P : Program} {t : TypeId} {a b : AV} {k : IntKind} {x y : Int} (ha : gval a = .int k x) (hb : gval b = .int k y) (h : ¬ x < y) : OpT P [0, 13, t] [a, b] (.lit (.bool false)) := opt_lss ha hb (decide_eq_false h)
theorem opt_leq_t {P : Program} {t : TypeId} {a b : AV} {k : IntKind} {x y : Int} (ha : gval a = .int k x) (hb : gval b = .int k y) (h : x ≤ y) : OpT P [0, 14, t] [a, b] (.lit (.bool true)) := opt_leq ha hb (decide_eq_true h)
theorem opt_leq_f {P : Program} {t : TypeId} {a b : AV} {k : IntKind} {x y : Int} (ha : gval a = .int k x) (hb : gval b = .int k y) (h : ¬ x ≤ y) : OpT P [0, 14, t] [a, b] (.lit (.bool false)) := opt_leq ha hb (decide_eq_false h)
theorem opt_gtr_t {P : Program} {t : TypeId} {a b : AV} {k : IntKind} {x y : Int} (ha : gval a = .int k x) (hb : gval b = .int k y) (h : x > y) : OpT P [0, 15, t] [a, b] (.lit (.bool true)) := opt_gtr ha hb (decide_eq_true h)
theorem opt_gtr_f {P : Program} {t : TypeId} {a b : AV} {k : IntKind} {x y : Int} (ha : gval a = .int k x) (hb : gval b = .int k y) (h : ¬ x > y) : OpT P [0, 15, t] [a, b] (.lit (.bool false)) := opt_gtr ha hb (decide_eq_false h)
theorem opt_geq_t {P : Program} {t : TypeId} {a b : AV} {k : IntKind} {x y : Int} (ha : gval a = .int k x) (hb : gval b = .int k y) (h : x ≥ y) : OpT P [0, 16, t] [a, b] (.lit (.bool true)) := opt_geq ha hb (decide_eq_true h)
theorem opt_geq_f {P : Program} {t : TypeId} {a b : AV} {k : IntKind} {x y : Int} (ha : gval a = .int k x) (hb : gval b = .int k y) (h : ¬ x ≥ y) : OpT P [0, 16, t] [a, b] (.lit (.bool false)) := opt_geq ha hb (decide_eq_false h)
end
end Go.Proofs.YtjkonfopajihdaaDoor
set_option linter.unusedVariables false
set_option linter.unusedSimpArgs false
set_option linter.unusedSectionVars false
namespace Go.Proofs.YtjkonfopajihdaaDoor
open Go Go.RowKit Nt

theorem natS_inj {m n : Nat} : natS m = natS n ↔ m = n := by
  constructor
  · intro h
    have : (natS m).toList = (natS n).toList := by rw [h]
    exact (natS_list_eq m n).1 this
  · rintro rfl; rfl
theorem Dy.ext_iff' {a b : Dy} : (a.g = b.g ∧ natS a.n = natS b.n ∧ a.x = b.x) ↔ a = b := by
  obtain ⟨g, n, x⟩ := a
  obtain ⟨g', n', x'⟩ := b
  simp [natS_inj]
theorem str_inj {s s' : ByteArray} (h : s.toList = s'.toList) : s = s' := by
  rw [ByteArray.toList_eq, ByteArray.toList_eq] at h
  obtain ⟨a⟩ := s
  obtain ⟨b⟩ := s'
  have : a = b := Array.ext' h
  rw [this]
theorem eqDy_run {g g' : Bool} {s s' : ByteArray} {x x' : Int} {c : Bool} (h : c = true ↔ (g = g' ∧ s = s' ∧ x = x')) (p q : Operand) (w : World) : (do eqGuard .eql 24 p q (.agg #[.bool g, .string s, .int .i64 x]) (.agg #[.bool g', .string s', .int .i64 x']); binOp .eql 24 (.agg #[.bool g, .string s, .int .i64 x]) (.agg #[.bool g', .string s', .int .i64 x'])).run Tryd.prog w = .ok (.bool c) w := by
  go_simp
  by_cases h1 : g = g'
  · by_cases h2 : s.toList = s'.toList
    · by_cases h3 : x = x'
      · rw [if_pos h1, if_pos h2, if_pos h3, h.2 ⟨h1, str_inj h2, h3⟩]
      · rw [if_pos h1, if_pos h2, if_neg h3, show c = false by cases c <;> first | rfl | exact absurd (h.1 rfl).2.2 h3]
    · rw [if_pos h1, if_neg h2, show c = false by cases c <;> first | rfl | exact absurd (congrArg _ (h.1 rfl).2.1) h2]
  · rw [if_neg h1, show c = false by cases c <;> first | rfl | exact absurd (h.1 rfl).1 h1]
theorem neDy_run {g g' : Bool} {s s' : ByteArray} {x x' : Int} {c : Bool} (h : c = true ↔ (g = g' ∧ s = s' ∧ x = x')) (p q : Operand) (w : World) : (do eqGuard .neq 24 p q (.agg #[.bool g, .string s, .int .i64 x]) (.agg #[.bool g', .string s', .int .i64 x']); binOp .neq 24 (.agg #[.bool g, .string s, .int .i64 x]) (.agg #[.bool g', .string s', .int .i64 x'])).run Tryd.prog w = .ok (.bool (!c)) w := by
  go_simp
  by_cases h1 : g = g'
  · by_cases h2 : s.toList = s'.toList
    · by_cases h3 : x = x'
      · rw [if_pos h1, if_pos h2, if_pos h3, h.2 ⟨h1, str_inj h2, h3⟩]; rfl
      · rw [if_pos h1, if_pos h2, if_neg h3, show c = false by cases c <;> first | rfl | exact absurd (h.1 rfl).2.2 h3]; rfl
    · rw [if_pos h1, if_neg h2, show c = false by cases c <;> first | rfl | exact absurd (congrArg _ (h.1 rfl).2.1) h2]; rfl
  · rw [if_neg h1, show c = false by cases c <;> first | rfl | exact absurd (h.1 rfl).1 h1]; rfl
section
variable [Env]
theorem optD_eql {A B : AV} {g g' : Bool} {s s' : ByteArray} {x x' : Int} {c : Bool} (ha : gval A = .agg #[.bool g, .string s, .int .i64 x]) (hb : gval B = .agg #[.bool g', .string s', .int .i64 x']) (h : c = true ↔ (g = g' ∧ s = s' ∧ x = x')) : OpT Tryd.prog [0, 11, 24] [A, B] (.lit (.bool c)) :=
  opt_bin (op := .eql) rfl fun p q w => by rw [ha, hb]; exact eqDy_run h p q w
theorem optD_neq {A B : AV} {g g' : Bool} {s s' : ByteArray} {x x' : Int} {c : Bool} (ha : gval A = .agg #[.bool g, .string s, .int .i64 x]) (hb : gval B = .agg #[.bool g', .string s', .int .i64 x']) (h : c = true ↔ (g = g' ∧ s = s' ∧ x = x')) : OpT Tryd.prog [0, 12, 24] [A, B] (.lit (.bool (!c))) :=
  opt_bin (op := .neq) rfl fun p q w => by rw [ha, hb]; exact neDy_run h p q w
theorem optD_eql_i {A B : AV} {a b : Dy} {c : Bool} (ha : gval A = a.v) (hb : gval B = b.v) (h : c = true ↔ a = b) : OpT Tryd.prog [0, 11, 24] [A, B] (.lit (.bool c)) := optD_eql ha hb (h.trans Dy.ext_iff'.symm)
theorem optD_neq_i {A B : AV} {a b : Dy} {c : Bool} (ha : gval A = a.v) (hb : gval B = b.v) (h : c = true ↔ a = b) : OpT Tryd.prog [0, 12, 24] [A, B] (.lit (.bool (!c))) := optD_neq ha hb (h.trans Dy.ext_iff'.symm)
theorem optD_eql_t {A B : AV} {a b : Dy} (ha : gval A = a.v) (hb : gval B = b.v) (h : a = b) : OpT Tryd.prog [0, 11, 24] [A, B] (.lit (.bool true)) := optD_eql ha hb ⟨fun _ => Dy.ext_iff'.2 h, fun _ => rfl⟩
theorem optD_eql_f {A B : AV} {a b : Dy} (ha : gval A = a.v) (hb : gval B = b.v) (h : ¬ a = b) : OpT Tryd.prog [0, 11, 24] [A, B] (.lit (.bool false)) := optD_eql ha hb ⟨(fun c => by cases c), fun c => absurd (Dy.ext_iff'.1 c) h⟩
theorem optD_neq_t {A B : AV} {a b : Dy} (ha : gval A = a.v) (hb : gval B = b.v) (h : ¬ a = b) : OpT Tryd.prog [0, 12, 24] [A, B] (.lit (.bool true)) := optD_neq (c := false) ha hb ⟨(fun c => by cases c), fun c => absurd (Dy.ext_iff'.1 c) h⟩
theorem optD_neq_f {A B : AV} {a b : Dy} (ha : gval A = a.v) (hb : gval B = b.v) (h : a = b) : OpT Tryd.prog [0, 12, 24] [A, B] (.lit (.bool false)) := optD_neq (c := true) ha hb ⟨fun _ => Dy.ext_iff'.2 h, fun _ => rfl⟩
end
theorem Dy.one_num : (⟨false, 1, 0⟩ : Dy).Num := ⟨(show nd 256 1 ≤ 16384 from Nat.le_trans (nd_le (k := 1) (by omega) (by decide)) (by decide)), (by decide), (by decide), (by decide)⟩
def Dy.one : Dy := ⟨false, 1, 0⟩
theorem Dy.one_Ok : Dy.one.Ok := Or.inr Dy.one_num
theorem natS_dz : natS Dy.zero.n = ⟨#[]⟩ := natS_zero
theorem natS_one3 {n : Nat} (h0 : 1 ≤ n) (h : n < 256) : natS n = ⟨#[UInt8.ofNat n]⟩ := by
  have e : nd 256 n = 1 := nd_unique (b := 256) (k := 0) (by omega) (by simpa using h0) (by simpa using h)
  rw [natS_def, e]
  have : dl 256 n 1 = [n] := by
    unfold dl; simp [List.range_succ, dgt_def, Nat.mod_eq_of_lt h]
  rw [this]; rfl
theorem natS_d1 : natS Dy.one.n = ⟨#[1]⟩ := (show natS 1 = ⟨#[1]⟩ from natS_one3 (by omega) (by omega))
theorem Dy.one_v : Dy.one.v = .agg #[.bool false, .string ⟨#[1]⟩, .int .i64 0] := by unfold Dy.v; rw [natS_d1]; rfl
end Go.Proofs.YtjkonfopajihdaaDoor
set_option linter.unusedVariables false
set_option linter.unusedSimpArgs false
namespace Go.Proofs.YtjkonfopajihdaaDoor
open Go Go.RowKit

@[irreducible] def allB (l : List Int) : Bool := decide (∀ t ∈ l, t = 0)
theorem allB_ok {l : List Int} (h : ∀ t ∈ l, t = 0) : allB l = true := by unfold allB; exact decide_eq_true h
theorem allB_no {l : List Int} {t : Int} (h : t ∈ l) (hn : ¬ t = 0) : allB l = false := by unfold allB; exact decide_eq_false (fun c => hn (c t h))
theorem allB_iff {l : List Int} : allB l = true ↔ ∀ t ∈ l, t = 0 := by unfold allB; exact decide_eq_true_iff
/-- A row of error numbers. -/
def Ers (w : World) (A : Nat) (l : List Int) : Prop := A < w.heap.size ∧ ∀ j (h : j < l.length), w.cell? ⟨A, j, none⟩ = some (.int .i64 l[j])
theorem Ers.below {w w' : World} {A : Nat} {l : List Int} (h : Ers w A l) (hb : Below w.heap.size w w') : Ers w' A l :=
  ⟨Nat.lt_of_lt_of_le h.1 hb.size, fun j hj => (hb.cell (p := ⟨A, j, none⟩) h.1).trans (h.2 j hj)⟩
section
variable [Env]
theorem ers_of {w : World} {b : Nat} {l : List Int} {cells : List AV} (hb : b < w.heap.size) (hc : ∀ j v, cells[j]? = some v → w.cell? ⟨b, j, none⟩ = some (gval1 v)) (he : cells.map gval1 = l.map (Value.int .i64)) : Ers w b l := by
  refine ⟨hb, fun j hj => ?_⟩
  have hl : cells.length = l.length := by have := congrArg List.length he; simpa using this
  have hj2 : j < cells.length := by omega
  rw [hc j cells[j] (by rw [List.getElem?_eq_getElem hj2])]
  have h2 : (cells.map gval1)[j]? = (l.map (Value.int .i64))[j]? := by rw [he]
  rw [List.getElem?_map, List.getElem?_map, List.getElem?_eq_getElem hj2, List.getElem?_eq_getElem hj] at h2
  simpa using h2
end
end Go.Proofs.YtjkonfopajihdaaDoor
set_option linter.unusedVariables false
set_option linter.unusedSimpArgs false
namespace Go.Proofs.YtjkonfopajihdaaDoor
open Go Go.RowKit

set_option maxRecDepth 100000 in
set_option maxHeartbeats 1000000 in
theorem lAll03_c (A : Nat) (c : Nat) (l : List Int) (w : World) (hl : l.length ≤ 9223372036854775807) (h : Ers w A l) :
    Calls Tryd.prog 53 #[.slice (some ⟨A, 0, none⟩) l.length c] w fun e w' => e = .returned (.bool (allB l)) ∧ Below w.heap.size w w' := by
  have HD := Lib.hid h
  clear h
  go_enter Tryd.func53, Tryd.ntmps53
  go_wp2
  go_loopw [3] (fun i wr => ∃ k : Nat, k ≤ l.length ∧ i = .int .i64 k ∧ Hid (∀ j (h : j < l.length), j < k → l[j] = 0) ∧ Below w.heap.size w wr) (fun i _ => l.length - (intOf i).toNat)
  case atStart => exact ⟨0, Nat.zero_le _, rfl, Lib.hid (fun j _ h => by omega), Below.refl _ _⟩
  case round =>
    obtain ⟨k, hk, rfl, hok, hb⟩ := hrel
    by_cases hlt : k < l.length
    · have c1 := (HD.out.below hb).2 k hlt
      by_cases hok1 : l[k] = 0
      · have HOK := Lib.hid (show ∀ j (h : j < l.length), j < k + 1 → l[j] = 0 from fun j hj h2 => by
          rcases Nat.lt_or_ge j k with h3 | h3
          · exact hok.out j hj h3
          · obtain rfl : j = k := by omega
            exact hok1)
        rw [hok1] at c1
        clear hok1
        go_wp2_with fail
        go_roundw
        case rel => exact ⟨k + 1, by omega, by go_num, HOK, hb⟩
        case measure => simp [intOf]; omega
      · have HE := Lib.hid (allB_no (l := l) (List.getElem_mem hlt) hok1)
        generalize l[k] = q at *
        have hq : (q == 0) = false := by simpa using hok1
        go_wp2_with fail
        go_ret
        exact ⟨by rw [HE.out]; rfl, hb⟩
    · have HE := Lib.hid (allB_ok (l := l) (fun t ht => by
        obtain ⟨j, hj, rfl⟩ := List.getElem_of_mem ht
        exact hok.out j hj (by omega)))
      go_wp2_with fail
      go_ret
      exact ⟨by rw [HE.out]; rfl, hb⟩
theorem lAll03_i (b c : Nat) (l : List Int) (w : World) (hl : l.length ≤ 9223372036854775807) (he : Ers w b l) {d : Bool} (h : d = true ↔ allB l = true) : Calls Tryd.prog 53 #[.slice (some ⟨b, 0, none⟩) l.length c] w fun e w' => e = .returned (.bool d) ∧ Below w.heap.size w w' := by
  have := lAll03_c b c l w hl he
  rwa [← show d = allB l from by rw [Bool.eq_iff_iff]; exact h] at this
theorem lAll03_t (b c : Nat) (l : List Int) (w : World) (hl : l.length ≤ 9223372036854775807) (he : Ers w b l) (h : allB l = true) : Calls Tryd.prog 53 #[.slice (some ⟨b, 0, none⟩) l.length c] w fun e w' => e = .returned (.bool true) ∧ Below w.heap.size w w' := by
  have := lAll03_c b c l w hl he
  rwa [h] at this
theorem lAll03_f (b c : Nat) (l : List Int) (w : World) (hl : l.length ≤ 9223372036854775807) (he : Ers w b l) (h : ¬ allB l = true) : Calls Tryd.prog 53 #[.slice (some ⟨b, 0, none⟩) l.length c] w fun e w' => e = .returned (.bool false) ∧ Below w.heap.size w w' := by
  have := lAll03_c b c l w hl he
  rwa [Bool.eq_false_iff.2 h] at this
end Go.Proofs.YtjkonfopajihdaaDoor
