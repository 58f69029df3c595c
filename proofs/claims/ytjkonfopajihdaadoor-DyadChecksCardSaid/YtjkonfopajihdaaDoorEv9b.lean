/- A closed run, reckoned: new cells that are made at any time; the plan's lists. -/
import Derived.Test.YtjkonfopajihdaaDoorEv9a
set_option linter.unusedVariables false
set_option linter.unusedSimpArgs false
namespace Go.Proofs.YtjkonfopajihdaaDoor
open Go Go.RowKit

/-- A cell made ahead of the plan. -/
structure Tk where
  i : Nat
  d : Tmp
  b : Nat
  ty : TypeId
  C : Array Value
def Tk.p (t : Tk) : Value := .pointer (some ⟨t.b, 0, none⟩)
def putT : List Tk → Act → Act
  | [], a => a
  | t :: T, a => (putT T a).put (some t.d) t.p
def setT : List Tk → Array Bool → Array Bool
  | [], l => l
  | t :: T, l => (setT T l).setIfInBounds t.i true
theorem putT_put : ∀ (T : List Tk) (a : Act) (y : Option Tmp) (u : Value), (∀ t ∈ T, y ≠ some t.d) → putT T (a.put y u) = (putT T a).put y u
  | [], _, _, _, _ => rfl
  | t :: T, a, y, u, h => by
    show (putT T (a.put y u)).put (some t.d) t.p = ((putT T a).put (some t.d) t.p).put y u
    rw [putT_put T a y u (fun t' ht => h t' (List.mem_cons_of_mem _ ht))]
    exact Act.put_comm _ _ _ (fun d hd e => h t List.mem_cons_self (hd.trans e.symm))
theorem putT_defers : ∀ (T : List Tk) (a : Act), (putT T a).defers = a.defers
  | [], _ => rfl
  | t :: T, a => putT_defers T a
theorem setT_set : ∀ (T : List Tk) (L : Array Bool) (i : Nat), setT T (L.setIfInBounds i true) = (setT T L).setIfInBounds i true
  | [], _, _ => rfl
  | t :: T, L, i => by
    show (setT T (L.setIfInBounds i true)).setIfInBounds t.i true = ((setT T L).setIfInBounds t.i true).setIfInBounds i true
    rw [setT_set T L i]
    by_cases h : t.i = i
    · rw [h]
    · exact Array.setIfInBounds_comm _ _ (fun e => h e.symm)
theorem setT_in : ∀ {T : List Tk} {L : Array Bool} {j : Nat}, (setT T L).getD j false = true → L.getD j false = true ∨ ∃ t ∈ T, t.i = j
  | [], _, _, h => .inl h
  | t :: T, L, j, h => by
    rcases getD_set_cases (show ((setT T L).setIfInBounds t.i true).getD j false = true from h) with h1 | h1
    · exact .inr ⟨t, List.mem_cons_self, h1.symm⟩
    · rcases setT_in h1 with h2 | ⟨t', ht, h2⟩
      · exact .inl h2
      · exact .inr ⟨t', List.mem_cons_of_mem _ ht, h2⟩
theorem setT_up : ∀ {T : List Tk} {L : Array Bool} {j : Nat}, L.getD j false = true → (setT T L).getD j false = true
  | [], _, _, h => h
  | t :: T, L, j, h => getD_set_true (setT_up h)
theorem setT_ne : ∀ {T : List Tk} {L : Array Bool} {j : Nat} (d : Bool), (∀ t ∈ T, t.i ≠ j) → (setT T L).getD j d = L.getD j d
  | [], _, _, _, _ => rfl
  | t :: T, L, j, d, h => by
    show ((setT T L).setIfInBounds t.i true).getD j d = _
    rw [getD_set_ne d (h t List.mem_cons_self), setT_ne d (fun t' ht => h t' (List.mem_cons_of_mem _ ht))]
theorem setT_un : ∀ {T : List Tk} {L : Array Bool} {j : Nat}, (setT T L).getD j true = false → L.getD j true = false ∧ ∀ t ∈ T, t.i ≠ j
  | [], _, _, h => ⟨h, fun _ h => by cases h⟩
  | t :: T, L, j, h => by
    have h : ((setT T L).setIfInBounds t.i true).getD j true = false := h
    by_cases hj : t.i = j
    · subst hj
      exfalso
      rcases Nat.lt_or_ge t.i (setT T L).size with h' | h'
      · simp [Array.getD, h'] at h
      · simp [Array.getD, Nat.not_lt.2 h'] at h
    · rw [getD_set_ne true hj] at h
      obtain ⟨h1, h2⟩ := setT_un h
      refine ⟨h1, fun t' ht => ?_⟩
      rcases List.mem_cons.1 ht with rfl | ht
      · exact hj
      · exact h2 t' ht
theorem setT_size : ∀ (T : List Tk) (L : Array Bool), (setT T L).size = L.size
  | [], _ => rfl
  | t :: T, L => by show ((setT T L).setIfInBounds t.i true).size = _; rw [Array.size_setIfInBounds]; exact setT_size T L
/-- One is taken out of the list. -/
theorem setT_out : ∀ (T1 : List Tk) {T2 : List Tk} {t : Tk} (L : Array Bool), setT (T1 ++ t :: T2) L = setT (T1 ++ T2) (L.setIfInBounds t.i true)
  | [], T2, t, L => (setT_set T2 L t.i).symm
  | u :: T1, T2, t, L => congrArg (·.setIfInBounds u.i true) (setT_out T1 L)
theorem putT_out : ∀ (T1 : List Tk) {T2 : List Tk} {t : Tk} (a : Act), (∀ u ∈ T2, t.d ≠ u.d) → putT (T1 ++ t :: T2) a = putT (T1 ++ T2) (a.put (some t.d) t.p)
  | [], T2, t, a, h => (putT_put T2 a (some t.d) t.p (fun u hu e => h u hu (Option.some.inj e))).symm
  | u :: T1, T2, t, a, h => congrArg (·.put (some u.d) u.p) (putT_out T1 a h)
section
variable {P : Program} {ops : Array Oper} {Q : Exit → Act → World → Prop}
theorem wpOp_unput (hQ : ∀ c a w, ¬ Q (.panic c) a w) {j : Nat} {oj : Oper} {d : Tmp} {v : Value} (hj : ops[j]? = some oj) (hsj : ∀ cs b, oj.op ≠ .select cs b) (h1 : d ∉ oj.looksAt ops) (h2 : oj.dst ≠ some d) {K : Act → World → Prop} {a : Act} {w : World}
    (h : wpOp P ops Q j (fun a' w' => K (a'.put (some d) v) w') a w) : wpOp P ops Q j K (a.put (some d) v) w := by
  have h1' : ∀ d', some d = some d' → d' ∉ oj.looksAt ops := fun d' e => by injection e with e; subst e; exact h1
  have h2' : ∀ d', some d = some d' → oj.dst ≠ some d' := fun d' e => by injection e with e; subst e; exact h2
  unfold wpOp at *
  simp only [hj] at *
  rw [wanted_put oj a (some d) v h1']
  split
  · rename_i hw
    simp only [hw, if_true] at h
    rcases h with h | ⟨hasks, hlets⟩
    case inr => exact .inr ⟨by unfold Oper.asks at *; rw [execOp_put oj hsj a (some d) v h1']; exact hasks, hlets⟩
    refine .inl ?_
    unfold Oper.wp at *
    rw [execOp_put oj hsj a (some d) v h1']
    generalize (execOp a.eval oj).run P w = r at *
    cases r with
    | ok n w' =>
      cases n <;> simp only [Oper.upon] at h ⊢
      case value u => rw [Act.put_comm a v u h2']; exact h
      case skip => rw [Act.put_comm a v undef h2']; exact h
      case defer d0 =>
        have e := Act.put_comm { a with defers := d0 :: a.defers } v undef h2'
        have : ({ a.put (some d) v with defers := d0 :: (a.put (some d) v).defers } : Act) = ({ a with defers := d0 :: a.defers } : Act).put (some d) v := rfl
        rw [this, e]
        exact h
      case enter f args =>
        refine Calls.mono h fun e w'' he => ?_
        cases e with
        | returned u => show K ((a.put (some d) v).put oj.dst u) w''; rw [Act.put_comm a v u h2']; exact he
        | panicked c => exact absurd he (hQ _ _ _)
        | outgrown => exact he
      case row row args => exact Rows.mono h fun u w'' he => by rw [Act.put_comm a v u h2']; exact he
    | halt x w' =>
      cases x <;> simp only [Oper.upon] at h ⊢
      case panic u => exact absurd h (hQ _ _ _)
  · rename_i hw
    simp only [hw] at h
    rw [Act.put_comm a v undef h2']
    exact h
theorem wpOp_putT (hQ : ∀ c a w, ¬ Q (.panic c) a w) {j : Nat} {oj : Oper} (hj : ops[j]? = some oj) (hsj : ∀ cs b, oj.op ≠ .select cs b) : ∀ (T : List Tk), (∀ t ∈ T, t.d ∉ oj.looksAt ops ∧ oj.dst ≠ some t.d) → ∀ {K : Act → World → Prop} {a : Act} {w : World},
    wpOp P ops Q j (fun a' w' => K (putT T a') w') a w → wpOp P ops Q j K (putT T a) w
  | [], _, _, _, _, h => h
  | t :: T, hT, K, a, w, h => by
    obtain ⟨h1, h2⟩ := hT t List.mem_cons_self
    refine wpOp_unput hQ hj hsj h1 h2 ?_
    exact wpOp_putT hQ hj hsj T (fun t' ht => hT t' (List.mem_cons_of_mem _ ht)) (K := fun a' w' => K (a'.put (some t.d) t.p) w') h
theorem execOp_putT {o : Oper} (hs : ∀ cs b, o.op ≠ .select cs b) : ∀ (T : List Tk) (a : Act), (∀ t ∈ T, t.d ∉ o.looksAt ops ∧ o.dst ≠ some t.d) → execOp (putT T a).eval o = execOp a.eval o
  | [], _, _ => rfl
  | t :: T, a, h => by
    show execOp ((putT T a).put (some t.d) t.p).eval o = _
    rw [execOp_put (ops := ops) o hs (putT T a) (some t.d) t.p (fun d e => by injection e with e; subst e; exact (h t List.mem_cons_self).1)]
    exact execOp_putT hs T a fun t' ht => h t' (List.mem_cons_of_mem _ ht)
theorem wanted_putT {o : Oper} : ∀ (T : List Tk) (a : Act), (∀ t ∈ T, t.d ∉ o.looksAt ops ∧ o.dst ≠ some t.d) → Region.wanted o (yielded ops (putT T a).tmps) = Region.wanted o (yielded ops a.tmps)
  | [], _, _ => rfl
  | t :: T, a, h => by
    show Region.wanted o (yielded ops ((putT T a).put (some t.d) t.p).tmps) = _
    rw [wanted_put o (putT T a) (some t.d) t.p (fun d e => by injection e with e; subst e; exact (h t List.mem_cons_self).1)]
    exact wanted_putT T a fun t' ht => h t' (List.mem_cons_of_mem _ ht)
end
/-- The floating operations. -/
def FloOk (P : Program) (ops : Array Oper) (fl : Nat → Bool) : Prop := ∀ i, fl i = true → ∃ o ty d inf z, ops[i]? = some o ∧ o.op = .alloc ty ∧ o.dst = some d ∧ o.guard = none ∧ P.info? ty = some inf ∧ inf.zero = some z ∧
  (∀ e ∈ o.after, Region.binds .any e = false) ∧ ∀ j oj, ops[j]? = some oj → j ≠ i → (∃ e ∈ oj.after, Region.binds .any e = true ∧ e.on = i) ∨ o.apart ops oj = true
/-- What waits for another floating one waits for r, too. -/
def Wt (ops : Array Oper) (fl : Nat → Bool) (L : Array Bool) (r : Nat) : Prop := ∀ i, fl i = true → i ≠ r → L.getD i true = false → ∀ j oj, ops[j]? = some oj → L.getD j true = false → (∃ e ∈ oj.after, Region.binds .any e = true ∧ e.on = i) → Reach ops j r
/-- These steps stand for every order. -/
def PlanOk (ops : Array Oper) (fl : Nat → Bool) : List Stp → Array Bool → Prop
  | [], l => Region.ready .any ops l = []
  | .early i :: r, l => fl i = false ∧ i ∈ Region.ready .any ops l ∧ Region.free .any ops l i = true ∧ Wt ops fl l i ∧ PlanOk ops fl r (l.setIfInBounds i true)
  | .held i :: r, l => fl i = false ∧ i ∈ Region.ready .any ops l ∧ Region.free .any ops l i = true ∧ Wt ops fl l i ∧ PlanOk ops fl r (l.setIfInBounds i true)
  | .solo i :: r, l => fl i = false ∧ i ∈ Region.ready .any ops l ∧ (∀ j ∈ Region.ready .any ops l, j = i ∨ fl j = true) ∧ Wt ops fl l i ∧ PlanOk ops fl r (l.setIfInBounds i true)
  | .flo i :: r, l => fl i = true ∧ i ∈ Region.ready .any ops l ∧ (∀ j ∈ Region.ready .any ops l, fl j = true) ∧ Wt ops fl l i ∧ PlanOk ops fl r (l.setIfInBounds i true)
  | .pair i j :: r, l => (∀ x, fl x = false) ∧ Region.ready .any ops l = [i, j] ∧ Region.ready .any ops (l.setIfInBounds i true) = [j] ∧ Region.ready .any ops (l.setIfInBounds j true) = [i] ∧
      (∃ a b, ops[i]? = some a ∧ ops[j]? = some b ∧ a.guard = none ∧ b.guard = none ∧ a.apart ops b = true ∧ i ≠ j) ∧ PlanOk ops fl r ((l.setIfInBounds i true).setIfInBounds j true)
section
variable {ops : Array Oper} {fl : Nat → Bool}
/-- Nothing comes up ahead that the plan does not see coming. -/
theorem noStray {LP : Array Bool} {T : List Tk} {r j : Nat} (hD : Down ops (setT T LP)) (hr : LP.getD r true = false) (hrT : ∀ t ∈ T, t.i ≠ r) (hwt : Wt ops fl LP r) (hT : ∀ t ∈ T, fl t.i = true ∧ LP.getD t.i true = false)
    (hj : j ∈ Region.ready .any ops (setT T LP)) : j ∈ Region.ready .any ops LP := by
  obtain ⟨hun, oj, hoj, hall⟩ := mem_ready.1 hj
  obtain ⟨hun1, _⟩ := setT_un hun
  refine mem_ready.2 ⟨hun1, oj, hoj, fun e he hb => ?_⟩
  rcases setT_in (hall e he hb) with h1 | ⟨t, ht, h1⟩
  · exact h1
  · exfalso
    obtain ⟨h2, h3⟩ := hT t ht
    have h4 := hwt t.i h2 (hrT t ht) h3 j oj hoj hun1 ⟨e, he, hb, h1.symm⟩
    have h5 := hD.reach h4 (fun o ho e he hb => by rw [hoj] at ho; injection ho with ho; subst ho; exact hall e he hb)
    rcases setT_in h5 with h6 | ⟨t', ht', h6⟩
    · rw [getD_tf hr] at h6; cases h6
    · exact hrT t' ht' h6
theorem ready_setT {LP : Array Bool} {j : Nat} (hj : j ∈ Region.ready .any ops LP) : ∀ {T : List Tk}, (∀ t ∈ T, t.i ≠ j) → j ∈ Region.ready .any ops (setT T LP)
  | [], _ => hj
  | t :: T, h => ready_mono (ready_setT hj (fun t' ht => h t' (List.mem_cons_of_mem _ ht))) (Ne.symm (h t List.mem_cons_self))
theorem free_setT {LP : Array Bool} {j : Nat} {T : List Tk} (h : Region.free .any ops LP j = true) : Region.free .any ops (setT T LP) j = true := by
  unfold Region.free at h ⊢
  split at h
  · cases h
  · rename_i oi hoi
    rw [List.all_eq_true] at h ⊢
    intro x hx
    have h1 := h x hx
    simp only [Bool.or_eq_true] at h1 ⊢
    rcases h1 with (h1 | h1) | h1
    · exact .inl (.inl h1)
    · refine .inl (.inr ?_)
      cases hc : (setT T LP).getD x true with
      | true => rfl
      | false => rw [(setT_un hc).1] at h1; cases h1
    · exact .inr h1
theorem free_set {LP : Array Bool} {j i : Nat} (h : Region.free .any ops LP j = true) : Region.free .any ops (LP.setIfInBounds i true) j = true :=
  free_setT (T := [⟨i, 0, 0, 0, #[]⟩]) h
/-- An operation that the plan sees is apart from what was made ahead. -/
theorem apartT {P : Program} (hfl : FloOk P ops fl) {LP : Array Bool} {T : List Tk} {j : Nat} {oj : Oper} (hoj : ops[j]? = some oj) (hj : j ∈ Region.ready .any ops LP) (hT : ∀ t ∈ T, fl t.i = true ∧ LP.getD t.i true = false ∧ ∃ o, ops[t.i]? = some o ∧ o.dst = some t.d) (hne : ∀ t ∈ T, t.i ≠ j) :
    ∀ t ∈ T, t.d ∉ oj.looksAt ops ∧ oj.dst ≠ some t.d := by
  intro t ht
  obtain ⟨h1, h2, o, ho, hd⟩ := hT t ht
  obtain ⟨o', ty, d, inf, z, g1, g2, g3, g4, g5, g6, g7, g8⟩ := hfl t.i h1
  rw [ho] at g1
  injection g1 with g1
  subst g1
  obtain ⟨hun, o2, ho2, hall⟩ := mem_ready.1 hj
  rw [hoj] at ho2
  injection ho2 with ho2
  subst ho2
  rcases g8 j oj hoj (Ne.symm (hne t ht)) with ⟨e, he, hb, hon⟩ | hap
  · have := hall e he hb
    rw [hon, getD_tf h2] at this
    cases this
  · obtain ⟨q1, q2, _⟩ := Oper.apart_spec hap
    exact ⟨q1 t.d hd, q2 t.d hd⟩
end
section
variable {P : Program}
theorem evalPlan_cons {call : CallE} {s0 : AS} {floor : Nat} {ops : Array Oper} {t : Stp} {l : List Stp} {f : Fr} {s : AS} {kl tl : List (Nat × Nat)} :
    evalPlan P call s0 floor ops (t :: l) f s kl tl = match planOne P call s0 floor ops t f s kl tl with
      | some (f', s', kl', tl') => evalPlan P call s0 floor ops l f' s' kl' tl'
      | none => none := rfl
/-- What one step does to the two lists. -/
theorem planOne_lists {call : CallE} {s0 : AS} {floor : Nat} {ops : Array Oper} {t : Stp} {f f' : Fr} {s s' : AS} {kl tl kl' tl' : List (Nat × Nat)} (h : planOne P call s0 floor ops t f s kl tl = some (f', s', kl', tl')) :
    (kl' = kl ∨ ∃ i k, t = .held i ∧ kl' = (i, k) :: kl ∧ hasK tl k = false) ∧ (tl' = tl ∨ ∃ i ws, t = .solo i ∧ tl' = ws.map (fun k => (i, k)) ++ tl ∧ waitsAll ops i ws kl = true) := by
  unfold planOne at h
  split at h
  · repeat' (split at h)
    all_goals first
      | (cases h; done)
      | (injection h with h; injection h with _ h; injection h with _ h; injection h with h1 h2; subst h1 h2; exact ⟨.inl rfl, .inl rfl⟩)
  · split at h
    · split at h
      · split at h
        · split at h
          · rename_i ht
            injection h with h; injection h with _ h; injection h with _ h; injection h with h1 h2; subst h1 h2
            exact ⟨.inr ⟨_, _, rfl, rfl, ht⟩, .inl rfl⟩
          · cases h
        · cases h
      · injection h with h; injection h with _ h; injection h with _ h; injection h with h1 h2; subst h1 h2; exact ⟨.inl rfl, .inl rfl⟩
    · cases h
  · split at h
    · split at h
      · split at h
        · split at h
          · rename_i ht
            injection h with h; injection h with _ h; injection h with _ h; injection h with h1 h2; subst h1 h2
            exact ⟨.inl rfl, .inr ⟨_, _, rfl, by rw [appL_eq, mapL_eq], ht⟩⟩
          · cases h
        · cases h
      · injection h with h; injection h with _ h; injection h with _ h; injection h with h1 h2; subst h1 h2; exact ⟨.inl rfl, .inl rfl⟩
    · cases h
  all_goals
    repeat' (split at h)
    all_goals first
      | (cases h; done)
      | (injection h with h; injection h with _ h; injection h with _ h; injection h with h1 h2; subst h1 h2; exact ⟨.inl rfl, .inl rfl⟩)
/-- The steps' own number has not come up. -/
theorem plan_un {ops : Array Oper} {fl : Nat → Bool} {t : Stp} {l : List Stp} {LP : Array Bool} (h : PlanOk ops fl (t :: l) LP) :
    ∃ LP', PlanOk ops fl l LP' ∧ (∀ j, LP'.getD j true = false → LP.getD j true = false) ∧ (∀ i, (t = .held i ∨ t = .solo i ∨ t = .early i) → LP.getD i true = false ∧ LP'.getD i true = true) := by
  have set_un : ∀ {L : Array Bool} {i j : Nat}, (L.setIfInBounds i true).getD j true = false → L.getD j true = false := fun {L i j} h => by
    by_cases e : i = j
    · subst e
      rcases Nat.lt_or_ge i L.size with h' | h'
      · simp [Array.getD, h'] at h
      · simp [Array.getD, Nat.not_lt.2 h'] at h
    · rw [getD_set_ne true e] at h; exact h
  have set_t : ∀ {L : Array Bool} {i : Nat}, (L.setIfInBounds i true).getD i true = true := fun {L i} => by
    rcases Nat.lt_or_ge i L.size with h' | h'
    · simp [Array.getD, h']
    · simp [Array.getD, Nat.not_lt.2 h']
  cases t with
  | early i => exact ⟨_, h.2.2.2.2, fun _ => set_un, fun k hk => by rcases hk with e | e | e <;> cases e; exact ⟨(mem_ready.1 h.2.1).1, set_t⟩⟩
  | held i => exact ⟨_, h.2.2.2.2, fun _ => set_un, fun k hk => by rcases hk with e | e | e <;> cases e; exact ⟨(mem_ready.1 h.2.1).1, set_t⟩⟩
  | solo i => exact ⟨_, h.2.2.2.2, fun _ => set_un, fun k hk => by rcases hk with e | e | e <;> cases e; exact ⟨(mem_ready.1 h.2.1).1, set_t⟩⟩
  | flo i => exact ⟨_, h.2.2.2.2, fun _ => set_un, fun k hk => by rcases hk with e | e | e <;> cases e⟩
  | pair i j => exact ⟨_, h.2.2.2.2.2, fun _ hx => set_un (set_un hx), fun k hk => by rcases hk with e | e | e <;> cases e⟩
theorem evalPlan_lists {call : CallE} {s0 : AS} {floor : Nat} {ops : Array Oper} {fl : Nat → Bool} : ∀ (l : List Stp) {LP : Array Bool} {f f' : Fr} {s s' : AS} {kl tl tf : List (Nat × Nat)}, PlanOk ops fl l LP → evalPlan P call s0 floor ops l f s kl tl = some (f', s', tf) →
    (∀ p ∈ tl, p ∈ tf) ∧ (∀ p ∈ tf, p ∈ tl ∨ LP.getD p.1 true = false) ∧ (∀ q ∈ kl, ∀ p ∈ tf, p.2 = q.2 → p ∈ tl ∨ Reach ops p.1 q.1)
  | [], LP, f, f', s, s', kl, tl, tf, hp, h => by
    have h' : some (f, s, tl) = some (f', s', tf) := h
    injection h' with h'
    injection h' with _ h'
    injection h' with _ h'
    subst h'
    exact ⟨fun _ h => h, fun _ h => .inl h, fun _ _ _ h _ => .inl h⟩
  | t :: l, LP, f, f', s, s', kl, tl, tf, hp, h => by
    rw [evalPlan_cons] at h
    split at h
    · rename_i f1 s1 kl1 tl1 h1
      obtain ⟨a1, a2⟩ := planOne_lists h1
      obtain ⟨LP', p1, p2, p3⟩ := plan_un hp
      obtain ⟨b1, b2, b3⟩ := evalPlan_lists l p1 h
      have hkl : ∀ q ∈ kl, q ∈ kl1 := fun q hq => by
        rcases a1 with rfl | ⟨i, k, _, rfl, _⟩
        · exact hq
        · exact List.mem_cons_of_mem _ hq
      rcases a2 with rfl | ⟨i, k, e, rfl, hw⟩
      · refine ⟨b1, fun p hp => ?_, fun q hq p hp e => b3 q (hkl q hq) p hp e⟩
        rcases b2 p hp with h2 | h2
        · exact .inl h2
        · exact .inr (p2 _ h2)
      · obtain ⟨g1, g2⟩ := p3 i (.inr (.inl e))
        refine ⟨fun p hp => b1 p (List.mem_append_right _ hp), fun p hp => ?_, fun q hq p hp e2 => ?_⟩
        · rcases b2 p hp with h2 | h2
          · rcases List.mem_append.1 h2 with h2 | h2
            · obtain ⟨k', _, rfl⟩ := List.mem_map.1 h2
              exact .inr g1
            · exact .inl h2
          · exact .inr (p2 _ h2)
        · rcases b3 q (hkl q hq) p hp e2 with h2 | h2
          · rcases List.mem_append.1 h2 with h2 | h2
            · obtain ⟨k', hk', rfl⟩ := List.mem_map.1 h2
              exact .inr (waitsAll_ok hw q hq (by rw [← e2]; exact hk'))
            · exact .inl h2
          · exact .inr h2
    · cases h
end
end Go.Proofs.YtjkonfopajihdaaDoor
