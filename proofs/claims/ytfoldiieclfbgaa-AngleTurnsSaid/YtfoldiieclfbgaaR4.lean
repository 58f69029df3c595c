/- Texts put together: Ev8 Ev9 Ev9a Ev9b Ev9c Ev10 Ev11 Sy A12 A4 A13 A14 A15. -/
import Derived.Test.YtfoldiieclfbgaaR3
import Derived.OrdersHeld
import Derived.Test.YtfoldiieclfbgaaR2
set_option linter.unusedVariables false
set_option linter.unusedSectionVars false
set_option linter.unusedSimpArgs false
namespace Go.Proofs.Ytfoldiieclfbgaa
open Go Go.RowKit
variable [Env] [Know]

section
variable {P : Program} {R : Rho}
/-- What a reckoner of calls promises. -/
def CallOk (P : Program) (call : CallE) : Prop := ∀ {floor : Nat} {g : FuncId} {l : List AV} {s : AS} {v : AV} {s' : AS}, call floor g l s = some (v, s') →
  ∀ {R : Rho} {w : World} {base : Nat} {xs : List Value}, Inv R s w floor base → VRels R l xs →
    Calls P g xs.toArray w fun e w' => ∃ R' x, e = .returned x ∧ VRel R' v x ∧ Went R R' s s' w w' floor base
theorem entered_run {g : FuncId} (h : entered P g = true) (xs : Array Value) (w : World) : (callFunc g xs).run P w = .ok (.enter g xs) w := by
  unfold entered at h
  split at h
  · rename_i fn hfn
    simp only [Bool.and_eq_true, Bool.not_eq_true'] at h
    have hb : ¬ fn.body = none := by intro e; rw [e] at h; simp at h
    have h2 : ¬ fn.name = "runtime.NumGoroutine" := by simpa using h.2
    simp [callFunc, hfn, h2, hb]
  · cases h
theorem callOf_ok {f : Fr} {a : Act} {o : Oper} {g : FuncId} {l : List AV} (h : callOf P f o = some (g, l)) (hf : FRel R f a.tmps) :
    ∃ xs, VRels R l xs ∧ ∀ w, (execOp a.eval o).run P w = .ok (.enter g xs.toArray) w := by
  unfold callOf at h
  obtain ⟨dst, op, type, pos, after, guard⟩ := o
  simp only at h
  split at h
  · rename_i x args argTypes
    split at h
    · rename_i g' fa fb hc
      split at h
      · rename_i he
        injection h with h
        injection h with h1 h2
        subst h1 h2
        have r := opnd_ok hf x
        rw [appL_eq, appL_eq]
        unfold calleeOf at hc
        split at hc
        · rename_i g2 p q e1
          injection hc with hc
          injection hc with h1 hc
          injection hc with h2 h3
          subst h1 h2 h3
          rw [e1] at r
          have r := lit_inv r
          rw [mapL_eq AV.lit, mapL_eq AV.lit]
          refine ⟨p.toList ++ (args.toList.map a.eval ++ q.toList), (VRels.lits_ _).append ((mapEval hf _).append (VRels.lits_ _)), fun w => ?_⟩
          simp only [execOp, resolve, r, Deferred.ofValue, Sem.run_bind, Sem.run_pure, Result.andThen_ok, invoke, entered_run he]
          congr 2
          apply Array.ext'
          simp
        · rename_i g2 p q e1
          injection hc with hc
          injection hc with h1 hc
          injection hc with h2 h3
          subst h1 h2 h3
          rw [e1] at r
          simp only [VRel] at r
          obtain ⟨as1, bs, r1, r2, r3⟩ := r
          refine ⟨as1 ++ (args.toList.map a.eval ++ bs), r1.append ((mapEval hf _).append r2), fun w => ?_⟩
          simp only [execOp, resolve, r3, Deferred.ofValue, Sem.run_bind, Sem.run_pure, Result.andThen_ok, invoke, entered_run he]
          congr 2
          apply Array.ext'
          simp
        · cases hc
      · cases h
    · cases h
  · rename_i x name args argTypes
    unfold methodOf at h
    split at h
    · rename_i t v e
      split at h
      · rename_i g' r hm
        split at h
        · rename_i he
          injection h with h
          injection h with h1 h2
          subst h1 h2
          have r0 := opnd_ok hf x
          rw [e] at r0
          have r0 := lit_inv r0
          refine ⟨r :: args.toList.map a.eval, VRels.cons (VRel.lit_ _) (mapEval hf _), fun w => ?_⟩
          have hrun := runPure_ok hm w
          have hx : (#[Value.iface t v] ++ args.map a.eval).extract 1 (#[Value.iface t v] ++ args.map a.eval).size = args.map a.eval := by
            apply Array.ext'
            simp [List.take_of_length_le]
          have h0 : (#[Value.iface t v] ++ args.map a.eval)[0]? = some (.iface t v) := by rw [Array.getElem?_append_left (by simp)]; rfl
          simp only [execOp, resolve, r0, invoke, Sem.run_bind, Sem.run_pure, Result.andThen_ok, h0, hx, callMethod]
          have hp : ∀ w, Sem.run P program w = Result.ok P w := fun _ => rfl
          simp only [hp, Result.andThen_ok, hrun, entered_run he]
          congr 2
          apply Array.ext'
          simp
        · cases h
      · cases h
    · cases h
  · cases h
theorem putA_ok {f : Fr} {a : Act} (hf : FRel R f a.tmps) (d : Option Tmp) {v : AV} {x : Value} (h : VRel R v x) : FRel R (putA f d v) (a.put d x).tmps := by
  cases d with
  | none => exact hf
  | some d => exact hf.set d h
theorem put_defers (a : Act) (d : Option Tmp) (x : Value) : (a.put d x).defers = a.defers := by cases d <;> rfl
theorem yielded_ok {f : Fr} {a : Act} (hf : FRel R f a.tmps) (ops : Array Oper) (j : Nat) (hs : symAt ops f j = false) : yieldedA ops f j = yielded ops a.tmps j := by
  unfold symAt at hs
  unfold yieldedA yielded
  cases hd : (ops[j]?).bind (·.dst) with
  | none => simp
  | some d =>
    rw [hd] at hs
    simp only [Option.bind_some]
    have hg := hf.get d
    have hx : ∀ x, a.tmps.getD d undef = x → (∀ b, x ≠ .bool b) → (match a.tmps[d]? with | some (.bool b) => some b | _ => none) = (none : Option Bool) := by
      intro x hx hn
      rw [Array.getD_eq_getD_getElem?] at hx
      cases hv : a.tmps[d]? with
      | none => rfl
      | some y =>
        rw [hv] at hx
        have hx : y = x := hx
        subst hx
        cases y <;> first | rfl | exact absurd rfl (hn _)
    cases hv : getF f d with
    | lit u =>
      rw [hv] at hg
      have e := lit_inv hg
      by_cases hb : ∃ b, u = .bool b
      · obtain ⟨b, rfl⟩ := hb
        have : a.tmps[d]? = some (.bool b) := by
          rw [Array.getD_eq_getD_getElem?] at e
          cases hv2 : a.tmps[d]? with
          | none => rw [hv2] at e; cases e
          | some y => rw [hv2] at e; exact congrArg some e
        rw [this]
      · have h9 := hx _ e (fun b c => hb ⟨b, c⟩)
        cases u <;> first | exact absurd ⟨_, rfl⟩ hb | exact h9.symm
    | ptr k off => rw [hv] at hg; obtain ⟨_, _, _, e⟩ := ptr_inv hg; exact (hx _ e (fun b c => by cases c)).symm
    | sl k off len c sz => rw [hv] at hg; obtain ⟨_, _, _, _, e, _⟩ := sl_inv hg; exact (hx _ e (fun b c => by cases c)).symm
    | emp => rw [hv] at hg; simp only [VRel] at hg; obtain ⟨_, _, e⟩ := hg; exact (hx _ e (fun b c => by cases c)).symm
    | agg vs => rw [hv] at hg; simp only [VRel] at hg; obtain ⟨_, _, e⟩ := hg; exact (hx _ e (fun b c => by cases c)).symm
    | tup vs => rw [hv] at hg; simp only [VRel] at hg; obtain ⟨_, _, e⟩ := hg; exact (hx _ e (fun b c => by cases c)).symm
    | ifc t v => rw [hv] at hg; simp only [VRel] at hg; obtain ⟨_, _, e⟩ := hg; exact (hx _ e (fun b c => by cases c)).symm
    | fn g p q => rw [hv] at hg; simp only [VRel] at hg; obtain ⟨_, _, _, _, e⟩ := hg; exact (hx _ e (fun b c => by cases c)).symm
    | sym i => simp only [hv] at hs; cases hs
    | row n o l => rw [hv] at hg; simp only [VRel] at hg
theorem wantA_ok {f : Fr} {a : Act} (hf : FRel R f a.tmps) {ops : Array Oper} {o : Oper} {b : Bool} (h : wantA ops f o = some b) : Region.wanted o (yielded ops a.tmps) = b := by
  unfold wantA at h
  unfold Region.wanted
  split at h
  · rename_i hg
    rw [hg]
    injection h
  · rename_i j c hg
    rw [hg]
    split at h
    · cases h
    · rename_i hs
      injection h with h
      rw [← h, yielded_ok hf ops j hs]
/-- One operation, carried out. -/
theorem evalOp_ok (hK : KnowOk P) {call : CallE} (hcall : CallOk P call) {fl base : Nat} {s s' : AS} {w : World} (hI : Inv R s w fl base) {f : Fr} {a : Act} {o : Oper} (hf : FRel R f a.tmps) {v : AV}
    (h : evalOp P call fl f o s = some (v, s')) {next : Act → World → Prop} {Q : Exit → Act → World → Prop}
    (hn : ∀ R' x w', VRel R' v x → Went R R' s s' w w' fl base → next (a.put o.dst x) w') :
    o.wp P a w next Q := by
  rw [evalOp_eq] at h
  unfold evalOp0 at h
  unfold Oper.wp
  split at h
  · rename_i g l hc
    obtain ⟨xs, h1, h2⟩ := callOf_ok hc hf
    rw [h2 w, Oper.upon_enter]
    refine (hcall h hI h1).mono fun e w' ⟨R', x, he, hx, hw⟩ => ?_
    subst he
    exact hn R' x w' hx hw
  · rename_i hc
    split at h
    · rename_i r hr
      injection h with h
      subst h
      obtain ⟨nx, x, w', R', q1, q2, q3, q4⟩ := evalMem_ok (P := P) hI hf hr
      rw [q1]
      have := hn R' x w' q3 q4
      rcases q2 with rfl | ⟨rfl, rfl⟩
      · exact this
      · exact this
    · split at h
      · rename_i u hu
        injection h with h
        injection h with h1 h2
        subst h1 h2
        obtain ⟨x, hx, hrun⟩ := evalWl_ok hK hu hf
        rw [hrun w]
        exact hn R x w hx (Went.refl hI)
      · cases h
/-- One behind the other. -/
theorem evalSeq_ok (hK : KnowOk P) {call : CallE} (hcall : CallOk P call) {floor base : Nat} {ops : Array Oper} {Q : Exit → Act → World → Prop} : ∀ (l : List Oper) {R : Rho} {f f' : Fr} {s s' : AS} {a : Act} {w : World},
    evalSeq P call floor ops l f s = some (f', s') → Inv R s w floor base → FRel R f a.tmps →
    (∀ R' a' w', Went R R' s s' w w' floor base → FRel R' f' a'.tmps → a'.defers = a.defers → Q .normal a' w') → wpList P ops Q l a w
  | [], R, f, f', s, s', a, w, h, hI, hf, hQ => by
    have h' : some (f, s) = some (f', s') := h
    injection h' with h'
    injection h' with h1 h2
    subst h1 h2
    exact hQ R a w (Went.refl hI) hf rfl
  | o :: l, R, f, f', s, s', a, w, h, hI, hf, hQ => by
    have h' : (match wantA ops f o with
      | some true => match evalOp P call floor f o s with
        | some (v, s') => evalSeq P call floor ops l (putA f o.dst v) s'
        | none => none
      | some false => evalSeq P call floor ops l (putA f o.dst (.lit undef)) s
      | none => none) = some (f', s') := h
    unfold wpList
    split at h'
    · rename_i hw
      have hw := wantA_ok hf hw
      rw [if_pos hw]
      left
      split at h'
      · rename_i v s1 he
        refine evalOp_ok hK hcall hI hf he fun R' x w' hx hg => ?_
        refine evalSeq_ok hK hcall l h' hg.inv (putA_ok (hf.ext hg.ext) o.dst hx) fun R'' a'' w'' hg2 hf2 hd => hQ R'' a'' w'' (hg.trans hg2) hf2 (hd.trans (put_defers _ _ _))
      · cases h'
    · rename_i hw
      have hw := wantA_ok hf hw
      rw [if_neg (by simp [hw])]
      exact evalSeq_ok hK hcall l h' hI (putA_ok hf o.dst (VRel.lit_ _)) fun R'' a'' w'' hg2 hf2 hd => hQ R'' a'' w'' hg2 hf2 (hd.trans (put_defers _ _ _))
    · cases h'
end
end Go.Proofs.Ytfoldiieclfbgaa
set_option linter.unusedVariables false
set_option linter.unusedSimpArgs false
namespace Go.Proofs.Ytfoldiieclfbgaa
open Go Go.RowKit

/-- One operation waits for another, through whatever others. -/
inductive ReachE (ops : Array Oper) : Nat → Nat → Prop
  | edge {j : Nat} {o : Oper} {e : Edge} : ops[j]? = some o → e ∈ o.after → Region.binds .any e = true → ReachE ops j e.on
  | next {j k : Nat} {o : Oper} {e : Edge} : ReachE ops j k → ops[k]? = some o → e ∈ o.after → Region.binds .any e = true → ReachE ops j e.on
/-- What has come up came up behind all that it waits for. -/
def Down (ops : Array Oper) (listed : Array Bool) : Prop := ∀ j o, ops[j]? = some o → listed.getD j false = true → ∀ e ∈ o.after, Region.binds .any e = true → listed.getD e.on false = true
section
variable {ops : Array Oper}
theorem Down.reach {listed : Array Bool} (h : Down ops listed) {j i : Nat} (hr : ReachE ops j i) (h1 : ∀ o, ops[j]? = some o → ∀ e ∈ o.after, Region.binds .any e = true → listed.getD e.on false = true) : listed.getD i false = true := by
  induction hr with
  | edge ho he hb => exact h1 _ ho _ he hb
  | next _ ho he hb ih => exact h _ _ ho ih _ he hb
theorem Down.of_listed {listed : Array Bool} (h : Down ops listed) {j i : Nat} (hr : ReachE ops j i) (hj : listed.getD j false = true) : listed.getD i false = true :=
  h.reach hr fun o ho e he hb => h j o ho hj e he hb
theorem getD_set_cases {listed : Array Bool} {i j : Nat} (h : (listed.setIfInBounds i true).getD j false = true) : j = i ∨ listed.getD j false = true := by
  by_cases hij : i = j
  · exact .inl hij.symm
  · exact .inr (by rw [getD_set_ne false hij] at h; exact h)
theorem Down.set {listed : Array Bool} (h : Down ops listed) {i : Nat} (hi : i ∈ Region.ready .any ops listed) : Down ops (listed.setIfInBounds i true) := by
  intro j o ho hj e he hb
  rcases getD_set_cases hj with rfl | hj
  · obtain ⟨_, o', ho', hall⟩ := mem_ready.1 hi
    rw [ho] at ho'
    injection ho' with ho'
    subst ho'
    exact getD_set_true (hall e he hb)
  · exact getD_set_true (h j o ho hj e he hb)
theorem getD_tf {listed : Array Bool} {i : Nat} (h : listed.getD i true = false) : listed.getD i false = false := by
  rcases Nat.lt_or_ge i listed.size with h' | h'
  · simp [h'] at h ⊢; exact h
  · simp [Array.getElem?_eq_none h'] at h
/-- How many have not come up. -/
def cnt (listed : Array Bool) : Nat := listed.toList.count false
theorem cnt_set {listed : Array Bool} {i : Nat} (h : listed.getD i true = false) : cnt (listed.setIfInBounds i true) + 1 = cnt listed := by
  have hi : i < listed.size := by
    rcases Nat.lt_or_ge i listed.size with h' | h'
    · exact h'
    · simp [Array.getElem?_eq_none h'] at h
  have hv : listed[i] = false := by simpa [hi] using h
  unfold cnt
  rw [Array.toList_setIfInBounds]
  have hi' : i < listed.toList.length := by simpa using hi
  have e := List.count_set (a := true) (b := false) hi'
  have hg : listed.toList[i] = false := by simpa using hv
  have hpos : 0 < listed.toList.count false := List.count_pos_iff.2 (by rw [← hg]; exact List.getElem_mem hi')
  have e1 : (if (listed.toList[i] == false) = true then 1 else 0) = 1 := by rw [hg]; rfl
  have e2 : (if (true == false) = true then 1 else 0) = 0 := rfl
  rw [e, e1, e2]
  omega
theorem cnt_pos {listed : Array Bool} {i : Nat} (h : listed.getD i true = false) : 0 < cnt listed := by have := cnt_set h; omega
end
/-- A state that an operation may still meet. -/
def Si (ops : Array Oper) (S : Array Bool → World → Prop) (i : Nat) (w : World) : Prop := ∃ L, Down ops L ∧ L.getD i true = false ∧ S L w
/-- Whatever order is picked from here on. -/
def wpAnyU (P : Program) (ops : Array Oper) (Q : Exit → Act → World → Prop) (S : Array Bool → World → Prop) : Nat → Array Bool → Act → World → Prop
  | 0, listed, a, w => Region.ready .any ops listed = [] ∧ Q .normal a w
  | fuel + 1, listed, a, w => (Region.ready .any ops listed = [] → Q .normal a w) ∧
    ∀ i ∈ Region.ready .any ops listed, wpOp P ops Q i (fun a' w' => S (listed.setIfInBounds i true) w' ∧ wpAnyU P ops Q S fuel (listed.setIfInBounds i true) a' w') a w
section
variable {P : Program} {ops : Array Oper} {Q : Exit → Act → World → Prop} {S : Array Bool → World → Prop}
theorem wpAny_of_U : ∀ (fuel : Nat) {listed : Array Bool} {a : Act} {w : World}, wpAnyU P ops Q S fuel listed a w → wpAny P .any ops Q fuel listed a w
  | 0, _, _, _, h => h
  | fuel + 1, _, _, _, h => ⟨h.1, fun i hi => wpOp_mono (fun a' w' h' => wpAny_of_U fuel h'.2) (h.2 i hi)⟩
theorem wpAnyU_done {listed : Array Bool} {a : Act} {w : World} (hr : Region.ready .any ops listed = []) (h : Q .normal a w) : ∀ fuel, wpAnyU P ops Q S fuel listed a w
  | 0 => ⟨hr, h⟩
  | _ + 1 => ⟨fun _ => h, by rw [hr]; simp⟩
theorem wpAnyU_first (hns : Region.noSelect ops = true) (hmono : ∀ L i w, S L w → S (L.setIfInBounds i true) w) (hQ : ∀ c a w, ¬ Q (.panic c) a w) {i : Nat} {oi : Oper} {v : Value} (hi : ops[i]? = some oi) :
    ∀ (fuel : Nat) (listed : Array Bool) (a : Act) (w : World),
      (∀ j oj, ops[j]? = some oj → j ≠ i → listed.getD j true = false → (∀ e ∈ oj.after, Region.binds .any e = true → e.on ≠ i) → oi.apart ops oj = true) →
      (∀ L w, S (L.setIfInBounds i true) w → S L w) → i ∈ Region.ready .any ops listed → Down ops listed → YieldsIf P ops (Si ops S i) oi v a → S listed w →
      wpAnyU P ops Q S fuel (listed.setIfInBounds i true) (a.put oi.dst v) w → wpAnyU P ops Q S (fuel + 1) listed a w := by
  have hsel := Region.noSelect_spec hns
  have hin : i < ops.size := (Array.getElem?_eq_some_iff.1 hi).1
  intro fuel
  induction fuel with
  | zero =>
    intro listed a w _ hin2 hr hd hy hS H
    have hun := (mem_ready.1 hr).1
    refine ⟨fun h => (by rw [h] at hr; cases hr), fun j hj => ?_⟩
    by_cases hji : j = i
    · subst hji; exact hy.wpOp hi ⟨listed, hd, hun, hS⟩ ⟨hmono _ _ _ hS, H⟩
    · have := ready_mono hj hji
      rw [H.1] at this
      cases this
  | succ fuel ih =>
    intro listed a w hfree hin2 hr hd hy hS H
    have hun := (mem_ready.1 hr).1
    refine ⟨fun h => (by rw [h] at hr; cases hr), fun j hj => ?_⟩
    by_cases hji : j = i
    · subst hji; exact hy.wpOp hi ⟨listed, hd, hun, hS⟩ ⟨hmono _ _ _ hS, H⟩
    · have h1 := H.2 j (ready_mono hj hji)
      obtain ⟨hjun, oj, hoj, hall⟩ := mem_ready.1 hj
      have hnot : ∀ e ∈ oj.after, Region.binds .any e = true → e.on ≠ i := fun e he hb heq => by
        have h1 := hall e he hb
        rw [heq, getD_tf hun] at h1
        cases h1
      have h2 := wpOp_putIf hoj (hfree j oj hoj hji hjun hnot) (fun cs b => hsel i oi cs b hi) (fun cs b => hsel j oj cs b hoj) (fun c a w h => absurd h (hQ _ _ _)) hy h1
      have hun2 : (listed.setIfInBounds j true).getD i true = false := by rw [getD_set_ne true hji]; exact hun
      refine wpOp_mono (fun a' w' h3 => ?_) h2
      obtain ⟨hy', hS', H'⟩ := h3
      rw [Array.setIfInBounds_comm _ _ (Ne.symm hji)] at hS' H'
      have hS2 := hin2 _ _ hS'
      refine ⟨hS2, ih (listed.setIfInBounds j true) a' w' (fun k ok hk hki hun3 hno => hfree k ok hk hki ?_ hno) hin2 (ready_mono hr (Ne.symm hji)) (hd.set hj) hy' hS2 H'⟩
      by_cases hjk : j = k
      · subst hjk; exact hjun
      · rw [getD_set_ne true hjk] at hun3; exact hun3
theorem wpAnyU_take (hns : Region.noSelect ops = true) (hmono : ∀ L i w, S L w → S (L.setIfInBounds i true) w) (hQ : ∀ c a w, ¬ Q (.panic c) a w) {i : Nat} {oi : Oper} {v : Value} {fuel : Nat} {listed : Array Bool} {a : Act} {w : World} (hi : ops[i]? = some oi)
    (hf : Region.free .any ops listed i = true) (hin2 : ∀ L w, S (L.setIfInBounds i true) w → S L w) (hr : i ∈ Region.ready .any ops listed) (hd : Down ops listed) (hy : YieldsIf P ops (Si ops S i) oi v a) (hS : S listed w)
    (h : wpAnyU P ops Q S fuel (listed.setIfInBounds i true) (a.put oi.dst v) w) : wpAnyU P ops Q S (fuel + 1) listed a w :=
  wpAnyU_first hns hmono hQ hi fuel listed a w (Region.free_spec hi hf) hin2 hr hd hy hS h
end
end Go.Proofs.Ytfoldiieclfbgaa
set_option linter.unusedVariables false
set_option linter.unusedSectionVars false
set_option linter.unusedSimpArgs false
namespace Go.Proofs.Ytfoldiieclfbgaa
open Go Go.RowKit
variable [Env] [Know]

theorem testBit_or_pow (m i j : Nat) : (m ||| 2 ^ i).testBit j = (m.testBit j || decide (i = j)) := by
  rw [Nat.testBit_or, Nat.testBit_two_pow]
theorem depM_bit (o : Oper) (j : Nat) : (depM o).testBit j = true ↔ ∃ e ∈ o.after, Region.binds .any e = true ∧ e.on = j := by
  have key : ∀ l : List Edge, (l.foldr (fun e m => if Region.binds .any e then m ||| (2 ^ e.on) else m) 0).testBit j = true ↔ ∃ e ∈ l, Region.binds .any e = true ∧ e.on = j := by
    intro l
    induction l with
    | nil => simp
    | cons e l ih =>
      rw [List.foldr_cons]
      by_cases hb : Region.binds .any e = true
      · rw [if_pos hb, testBit_or_pow]
        simp only [Bool.or_eq_true, ih, decide_eq_true_eq, List.mem_cons]
        constructor
        · rintro (⟨x, hx, h⟩ | h)
          · exact ⟨x, .inr hx, h⟩
          · exact ⟨e, .inl rfl, hb, h⟩
        · rintro ⟨x, rfl | hx, h1, h2⟩
          · exact .inr h2
          · exact .inl ⟨x, hx, h1, h2⟩
      · rw [if_neg hb, ih]
        constructor
        · rintro ⟨x, hx, h⟩; exact ⟨x, List.mem_cons_of_mem _ hx, h⟩
        · rintro ⟨x, hx, h1, h2⟩
          rcases List.mem_cons.1 hx with rfl | hx
          · exact absurd h1 hb
          · exact ⟨x, hx, h1, h2⟩
  unfold depM
  rw [key]
  simp
theorem lookM_bit (ops : Array Oper) (o : Oper) (t : Nat) : (lookM ops o).testBit t = true ↔ t ∈ o.looksAt ops := by
  unfold lookM
  generalize o.looksAt ops = l
  induction l with
  | nil => simp
  | cons e l ih =>
    rw [List.foldr_cons, testBit_or_pow]
    simp only [Bool.or_eq_true, ih, decide_eq_true_eq, List.mem_cons]
    constructor
    · rintro (h | h)
      · exact .inr h
      · exact .inl h.symm
    · rintro (h | h)
      · exact .inr h.symm
      · exact .inl h
theorem recs_map (ops : Array Oper) : ∀ (l : List Oper) (k : Nat), (recs ops l k).map (·.i) = List.range' k l.length
  | [], k => rfl
  | o :: l, k => by simp [recs, recs_map ops l (k + 1), List.range'_succ]
theorem recs_mem (ops : Array Oper) (l : List Oper) : ∀ (k : Nat) (r : Rec), r ∈ recs ops l k → ∃ j, l[j]? = some r.o ∧ r.i = k + j ∧ r.deps = depM r.o ∧ r.looks = lookM ops r.o := by
  induction l with
  | nil => intro k r h; cases h
  | cons o l ih =>
    intro k r h
    unfold recs at h
    rcases List.mem_cons.1 h with h | h
    · refine ⟨0, ?_, ?_, ?_, ?_⟩ <;> rw [h] <;> simp
    · obtain ⟨j, h1, h2, h3⟩ := ih (k + 1) r h
      exact ⟨j + 1, by simpa using h1, by omega, h3⟩
/-- All the operations. -/
noncomputable def allR (ops : Array Oper) : List Rec := recs ops ops.toList 0
theorem allR_map (ops : Array Oper) : (allR ops).map (·.i) = List.range ops.size := by
  unfold allR; rw [recs_map, List.range_eq_range']; simp
theorem allR_mem {ops : Array Oper} {r : Rec} (h : r ∈ allR ops) : ops[r.i]? = some r.o ∧ r.deps = depM r.o ∧ r.looks = lookM ops r.o := by
  obtain ⟨j, h1, h2, h3⟩ := recs_mem ops ops.toList 0 r h
  refine ⟨?_, h3⟩
  rw [h2, Nat.zero_add, ← Array.getElem?_toList]
  exact h1
theorem allR_ex {ops : Array Oper} {i : Nat} (h : i < ops.size) : ∃ r ∈ allR ops, r.i = i := by
  have : i ∈ (allR ops).map (·.i) := by rw [allR_map]; exact List.mem_range.2 h
  obtain ⟨r, h1, h2⟩ := List.mem_map.1 this
  exact ⟨r, h1, h2⟩
theorem allR_inj {ops : Array Oper} {r q : Rec} (h : r ∈ allR ops) (h' : q ∈ allR ops) (e : r.i = q.i) : r = q := by
  obtain ⟨h1, h2, h3⟩ := allR_mem h
  obtain ⟨g1, g2, g3⟩ := allR_mem h'
  rw [e, g1] at h1
  injection h1 with h1
  obtain ⟨i, o, d, l⟩ := r
  obtain ⟨i', o', d', l'⟩ := q
  simp only at *
  subst h1 e
  rw [h2, g2, h3, g3]
theorem stepM_bit {c x : Nat} : ∀ {l : List Rec}, (stepM c l).testBit x = true → c.testBit x = true ∨ ∃ r ∈ l, c.testBit r.i = true ∧ r.deps.testBit x = true
  | [], h => .inl h
  | r :: l, h => by
    have h' : (Bool.rec (stepM c l) (stepM c l ||| r.deps) (c.testBit r.i) : Nat).testBit x = true := h
    cases hb : c.testBit r.i with
    | false =>
      rw [hb] at h'
      rcases stepM_bit h' with h1 | ⟨q, hq, h1⟩
      · exact .inl h1
      · exact .inr ⟨q, List.mem_cons_of_mem _ hq, h1⟩
    | true =>
      rw [hb] at h'
      rw [Nat.testBit_or, Bool.or_eq_true] at h'
      rcases h' with h' | h'
      · rcases stepM_bit h' with h1 | ⟨q, hq, h1⟩
        · exact .inl h1
        · exact .inr ⟨q, List.mem_cons_of_mem _ hq, h1⟩
      · exact .inr ⟨r, List.mem_cons_self, hb, h'⟩
theorem closM_ok {ops : Array Oper} {j : Nat} : ∀ (n : Nat) {m : Nat}, (∀ x, m.testBit x = true → ReachE ops j x) → ∀ x, (closM (allR ops) n m).testBit x = true → ReachE ops j x
  | 0, m, h, x, hx => h x hx
  | n + 1, m, h, x, hx => by
    have hx' : (stepM (closM (allR ops) n m) (allR ops)).testBit x = true := hx
    rcases stepM_bit hx' with h1 | ⟨r, hr, h1, h2⟩
    · exact closM_ok n h x h1
    · have h3 := closM_ok n h r.i h1
      obtain ⟨g1, g2, _⟩ := allR_mem hr
      rw [g2, depM_bit] at h2
      obtain ⟨e, he, hb, rfl⟩ := h2
      exact .next h3 g1 he hb
theorem waitsR_ok {ops : Array Oper} {q : Rec} {i : Nat} (hq : ops[q.i]? = some q.o) (hd : q.deps = depM q.o) (h : waitsR (allR ops) q i = true) : ReachE ops q.i i := by
  have base : ∀ x, q.deps.testBit x = true → ReachE ops q.i x := by
    intro x hx
    rw [hd, depM_bit] at hx
    obtain ⟨e, he, hb, rfl⟩ := hx
    exact .edge hq he hb
  unfold waitsR at h
  rw [Bool.or_eq_true] at h
  rcases h with h | h
  · exact base i h
  · exact closM_ok 8 base i h
theorem hasK_false {l : List (Nat × Nat)} {k : Nat} (h : hasK l k = false) : ∀ p ∈ l, p.2 ≠ k := by
  induction l with
  | nil => simp
  | cons a l ih =>
    have h' : (Bool.rec (hasK l k) true (Nat.beq a.2 k) : Bool) = false := h
    cases hb : Nat.beq a.2 k with
    | true => rw [hb] at h'; cases h'
    | false =>
      rw [hb] at h'
      intro p hp
      rcases List.mem_cons.1 hp with rfl | hp
      · exact Nat.ne_of_beq_eq_false hb
      · exact ih h' p hp
theorem waitsAll_ok {ops : Array Oper} {i : Nat} {ws : List Nat} {kl : List (Nat × Nat)} (h : waitsAll ops i ws kl = true) : ∀ q ∈ kl, q.2 ∈ ws → ReachE ops i q.1 := by
  intro q hq hk
  unfold waitsAll at h
  rw [allL_eq, List.all_eq_true] at h
  have := h q hq
  simp only [Bool.or_eq_true, Bool.not_eq_true'] at this
  rcases this with h1 | h1
  · rw [hasN_iff.2 hk] at h1; cases h1
  · split at h1
    · rename_i o ho
      exact waitsR_ok (q := ⟨i, o, depM o, 0⟩) ho rfl h1
    · cases h1
end Go.Proofs.Ytfoldiieclfbgaa
set_option linter.unusedVariables false
set_option linter.unusedSectionVars false
set_option linter.unusedSimpArgs false
namespace Go.Proofs.Ytfoldiieclfbgaa
open Go Go.RowKit
variable [Env] [Know]

/-- A cell made ahead of the plan. -/
structure Tk where
  i : Nat
  d : Tmp
  b : Nat
  ty : TypeId
  C : Array Value
def Tk.p (t : Tk) : Value := .pointer (some ⟨t.b, 0, none⟩)
def putT : List Tk → Act → Act
  | [], a => a
  | t :: T, a => (putT T a).put (some t.d) t.p
def setT : List Tk → Array Bool → Array Bool
  | [], l => l
  | t :: T, l => (setT T l).setIfInBounds t.i true
theorem putT_put : ∀ (T : List Tk) (a : Act) (y : Option Tmp) (u : Value), (∀ t ∈ T, y ≠ some t.d) → putT T (a.put y u) = (putT T a).put y u
  | [], _, _, _, _ => rfl
  | t :: T, a, y, u, h => by
    show (putT T (a.put y u)).put (some t.d) t.p = ((putT T a).put (some t.d) t.p).put y u
    rw [putT_put T a y u (fun t' ht => h t' (List.mem_cons_of_mem _ ht))]
    exact Act.put_comm _ _ _ (fun d hd e => h t List.mem_cons_self (hd.trans e.symm))
theorem putT_defers : ∀ (T : List Tk) (a : Act), (putT T a).defers = a.defers
  | [], _ => rfl
  | t :: T, a => putT_defers T a
theorem setT_set : ∀ (T : List Tk) (L : Array Bool) (i : Nat), setT T (L.setIfInBounds i true) = (setT T L).setIfInBounds i true
  | [], _, _ => rfl
  | t :: T, L, i => by
    show (setT T (L.setIfInBounds i true)).setIfInBounds t.i true = ((setT T L).setIfInBounds t.i true).setIfInBounds i true
    rw [setT_set T L i]
    by_cases h : t.i = i
    · rw [h]
    · exact Array.setIfInBounds_comm _ _ (fun e => h e.symm)
theorem setT_in : ∀ {T : List Tk} {L : Array Bool} {j : Nat}, (setT T L).getD j false = true → L.getD j false = true ∨ ∃ t ∈ T, t.i = j
  | [], _, _, h => .inl h
  | t :: T, L, j, h => by
    rcases getD_set_cases (show ((setT T L).setIfInBounds t.i true).getD j false = true from h) with h1 | h1
    · exact .inr ⟨t, List.mem_cons_self, h1.symm⟩
    · rcases setT_in h1 with h2 | ⟨t', ht, h2⟩
      · exact .inl h2
      · exact .inr ⟨t', List.mem_cons_of_mem _ ht, h2⟩
theorem setT_up : ∀ {T : List Tk} {L : Array Bool} {j : Nat}, L.getD j false = true → (setT T L).getD j false = true
  | [], _, _, h => h
  | t :: T, L, j, h => getD_set_true (setT_up h)
theorem setT_ne : ∀ {T : List Tk} {L : Array Bool} {j : Nat} (d : Bool), (∀ t ∈ T, t.i ≠ j) → (setT T L).getD j d = L.getD j d
  | [], _, _, _, _ => rfl
  | t :: T, L, j, d, h => by
    show ((setT T L).setIfInBounds t.i true).getD j d = _
    rw [getD_set_ne d (h t List.mem_cons_self), setT_ne d (fun t' ht => h t' (List.mem_cons_of_mem _ ht))]
theorem setT_un : ∀ {T : List Tk} {L : Array Bool} {j : Nat}, (setT T L).getD j true = false → L.getD j true = false ∧ ∀ t ∈ T, t.i ≠ j
  | [], _, _, h => ⟨h, fun _ h => by cases h⟩
  | t :: T, L, j, h => by
    have h : ((setT T L).setIfInBounds t.i true).getD j true = false := h
    by_cases hj : t.i = j
    · subst hj
      exfalso
      rcases Nat.lt_or_ge t.i (setT T L).size with h' | h'
      · simp [Array.getD, h'] at h
      · simp [Array.getD, Nat.not_lt.2 h'] at h
    · rw [getD_set_ne true hj] at h
      obtain ⟨h1, h2⟩ := setT_un h
      refine ⟨h1, fun t' ht => ?_⟩
      rcases List.mem_cons.1 ht with rfl | ht
      · exact hj
      · exact h2 t' ht
theorem setT_size : ∀ (T : List Tk) (L : Array Bool), (setT T L).size = L.size
  | [], _ => rfl
  | t :: T, L => by show ((setT T L).setIfInBounds t.i true).size = _; rw [Array.size_setIfInBounds]; exact setT_size T L
/-- One is taken out of the list. -/
theorem setT_out : ∀ (T1 : List Tk) {T2 : List Tk} {t : Tk} (L : Array Bool), setT (T1 ++ t :: T2) L = setT (T1 ++ T2) (L.setIfInBounds t.i true)
  | [], T2, t, L => (setT_set T2 L t.i).symm
  | u :: T1, T2, t, L => congrArg (·.setIfInBounds u.i true) (setT_out T1 L)
theorem putT_out : ∀ (T1 : List Tk) {T2 : List Tk} {t : Tk} (a : Act), (∀ u ∈ T2, t.d ≠ u.d) → putT (T1 ++ t :: T2) a = putT (T1 ++ T2) (a.put (some t.d) t.p)
  | [], T2, t, a, h => (putT_put T2 a (some t.d) t.p (fun u hu e => h u hu (Option.some.inj e))).symm
  | u :: T1, T2, t, a, h => congrArg (·.put (some u.d) u.p) (putT_out T1 a h)
section
variable {P : Program} {ops : Array Oper} {Q : Exit → Act → World → Prop}
theorem wpOp_unput (hQ : ∀ c a w, ¬ Q (.panic c) a w) {j : Nat} {oj : Oper} {d : Tmp} {v : Value} (hj : ops[j]? = some oj) (hsj : ∀ cs b, oj.op ≠ .select cs b) (h1 : d ∉ oj.looksAt ops) (h2 : oj.dst ≠ some d) {K : Act → World → Prop} {a : Act} {w : World}
    (h : wpOp P ops Q j (fun a' w' => K (a'.put (some d) v) w') a w) : wpOp P ops Q j K (a.put (some d) v) w := by
  have h1' : ∀ d', some d = some d' → d' ∉ oj.looksAt ops := fun d' e => by injection e with e; subst e; exact h1
  have h2' : ∀ d', some d = some d' → oj.dst ≠ some d' := fun d' e => by injection e with e; subst e; exact h2
  unfold wpOp at *
  simp only [hj] at *
  rw [wanted_put oj a (some d) v h1']
  split
  · rename_i hw
    simp only [hw, if_true] at h
    rcases h with h | ⟨hasks, hlets⟩
    case inr => exact .inr ⟨by unfold Oper.asks at *; rw [execOp_put oj hsj a (some d) v h1']; exact hasks, hlets⟩
    refine .inl ?_
    unfold Oper.wp at *
    rw [execOp_put oj hsj a (some d) v h1']
    generalize (execOp a.eval oj).run P w = r at *
    cases r with
    | ok n w' =>
      cases n <;> simp only [Oper.upon] at h ⊢
      case value u => rw [Act.put_comm a v u h2']; exact h
      case skip => rw [Act.put_comm a v undef h2']; exact h
      case defer d0 =>
        have e := Act.put_comm { a with defers := d0 :: a.defers } v undef h2'
        have : ({ a.put (some d) v with defers := d0 :: (a.put (some d) v).defers } : Act) = ({ a with defers := d0 :: a.defers } : Act).put (some d) v := rfl
        rw [this, e]
        exact h
      case enter f args =>
        refine Calls.mono h fun e w'' he => ?_
        cases e with
        | returned u => show K ((a.put (some d) v).put oj.dst u) w''; rw [Act.put_comm a v u h2']; exact he
        | panicked c => exact absurd he (hQ _ _ _)
        | outgrown => exact he
      case row row args => exact Rows.mono h fun u w'' he => by rw [Act.put_comm a v u h2']; exact he
    | halt x w' =>
      cases x <;> simp only [Oper.upon] at h ⊢
      case panic u => exact absurd h (hQ _ _ _)
  · rename_i hw
    simp only [hw] at h
    rw [Act.put_comm a v undef h2']
    exact h
theorem wpOp_putT (hQ : ∀ c a w, ¬ Q (.panic c) a w) {j : Nat} {oj : Oper} (hj : ops[j]? = some oj) (hsj : ∀ cs b, oj.op ≠ .select cs b) : ∀ (T : List Tk), (∀ t ∈ T, t.d ∉ oj.looksAt ops ∧ oj.dst ≠ some t.d) → ∀ {K : Act → World → Prop} {a : Act} {w : World},
    wpOp P ops Q j (fun a' w' => K (putT T a') w') a w → wpOp P ops Q j K (putT T a) w
  | [], _, _, _, _, h => h
  | t :: T, hT, K, a, w, h => by
    obtain ⟨h1, h2⟩ := hT t List.mem_cons_self
    refine wpOp_unput hQ hj hsj h1 h2 ?_
    exact wpOp_putT hQ hj hsj T (fun t' ht => hT t' (List.mem_cons_of_mem _ ht)) (K := fun a' w' => K (a'.put (some t.d) t.p) w') h
theorem execOp_putT {o : Oper} (hs : ∀ cs b, o.op ≠ .select cs b) : ∀ (T : List Tk) (a : Act), (∀ t ∈ T, t.d ∉ o.looksAt ops ∧ o.dst ≠ some t.d) → execOp (putT T a).eval o = execOp a.eval o
  | [], _, _ => rfl
  | t :: T, a, h => by
    show execOp ((putT T a).put (some t.d) t.p).eval o = _
    rw [execOp_put (ops := ops) o hs (putT T a) (some t.d) t.p (fun d e => by injection e with e; subst e; exact (h t List.mem_cons_self).1)]
    exact execOp_putT hs T a fun t' ht => h t' (List.mem_cons_of_mem _ ht)
theorem wanted_putT {o : Oper} : ∀ (T : List Tk) (a : Act), (∀ t ∈ T, t.d ∉ o.looksAt ops ∧ o.dst ≠ some t.d) → Region.wanted o (yielded ops (putT T a).tmps) = Region.wanted o (yielded ops a.tmps)
  | [], _, _ => rfl
  | t :: T, a, h => by
    show Region.wanted o (yielded ops ((putT T a).put (some t.d) t.p).tmps) = _
    rw [wanted_put o (putT T a) (some t.d) t.p (fun d e => by injection e with e; subst e; exact (h t List.mem_cons_self).1)]
    exact wanted_putT T a fun t' ht => h t' (List.mem_cons_of_mem _ ht)
end
/-- The floating operations. -/
def FloOk (P : Program) (ops : Array Oper) (fl : Nat → Bool) : Prop := ∀ i, fl i = true → ∃ o ty d inf z, ops[i]? = some o ∧ o.op = .alloc ty ∧ o.dst = some d ∧ o.guard = none ∧ P.info? ty = some inf ∧ inf.zero = some z ∧
  (∀ e ∈ o.after, Region.binds .any e = false) ∧ ∀ j oj, ops[j]? = some oj → j ≠ i → (∃ e ∈ oj.after, Region.binds .any e = true ∧ e.on = i) ∨ o.apart ops oj = true
/-- What waits for another floating one waits for r, too. -/
def Wt (ops : Array Oper) (fl : Nat → Bool) (L : Array Bool) (r : Nat) : Prop := ∀ i, fl i = true → i ≠ r → L.getD i true = false → ∀ j oj, ops[j]? = some oj → L.getD j true = false → (∃ e ∈ oj.after, Region.binds .any e = true ∧ e.on = i) → ReachE ops j r
/-- These steps stand for every order. -/
def PlanOk (ops : Array Oper) (fl : Nat → Bool) : List Stp → Array Bool → Prop
  | [], l => Region.ready .any ops l = []
  | .early i :: r, l => fl i = false ∧ i ∈ Region.ready .any ops l ∧ Region.free .any ops l i = true ∧ True ∧ PlanOk ops fl r (l.setIfInBounds i true)
  | .held i :: r, l => fl i = false ∧ i ∈ Region.ready .any ops l ∧ Region.free .any ops l i = true ∧ True ∧ PlanOk ops fl r (l.setIfInBounds i true)
  | .solo i :: r, l => fl i = false ∧ i ∈ Region.ready .any ops l ∧ (∀ j ∈ Region.ready .any ops l, j = i ∨ fl j = true) ∧ Wt ops fl l i ∧ PlanOk ops fl r (l.setIfInBounds i true)
  | .flo i :: r, l => fl i = true ∧ i ∈ Region.ready .any ops l ∧ (∀ j ∈ Region.ready .any ops l, fl j = true) ∧ Wt ops fl l i ∧ PlanOk ops fl r (l.setIfInBounds i true)
  | .pair i j :: r, l => (∀ x, fl x = false) ∧ Region.ready .any ops l = [i, j] ∧ Region.ready .any ops (l.setIfInBounds i true) = [j] ∧ Region.ready .any ops (l.setIfInBounds j true) = [i] ∧
      (∃ a b, ops[i]? = some a ∧ ops[j]? = some b ∧ a.guard = none ∧ b.guard = none ∧ a.apart ops b = true ∧ i ≠ j) ∧ PlanOk ops fl r ((l.setIfInBounds i true).setIfInBounds j true)
section
variable {ops : Array Oper} {fl : Nat → Bool}
/-- Nothing comes up ahead that the plan does not see coming. -/
theorem noStray {LP : Array Bool} {T : List Tk} {r j : Nat} (hD : Down ops (setT T LP)) (hr : LP.getD r true = false) (hrT : ∀ t ∈ T, t.i ≠ r) (hwt : Wt ops fl LP r) (hT : ∀ t ∈ T, fl t.i = true ∧ LP.getD t.i true = false)
    (hj : j ∈ Region.ready .any ops (setT T LP)) : j ∈ Region.ready .any ops LP := by
  obtain ⟨hun, oj, hoj, hall⟩ := mem_ready.1 hj
  obtain ⟨hun1, _⟩ := setT_un hun
  refine mem_ready.2 ⟨hun1, oj, hoj, fun e he hb => ?_⟩
  rcases setT_in (hall e he hb) with h1 | ⟨t, ht, h1⟩
  · exact h1
  · exfalso
    obtain ⟨h2, h3⟩ := hT t ht
    have h4 := hwt t.i h2 (hrT t ht) h3 j oj hoj hun1 ⟨e, he, hb, h1.symm⟩
    have h5 := hD.reach h4 (fun o ho e he hb => by rw [hoj] at ho; injection ho with ho; subst ho; exact hall e he hb)
    rcases setT_in h5 with h6 | ⟨t', ht', h6⟩
    · rw [getD_tf hr] at h6; cases h6
    · exact hrT t' ht' h6
theorem ready_setT {LP : Array Bool} {j : Nat} (hj : j ∈ Region.ready .any ops LP) : ∀ {T : List Tk}, (∀ t ∈ T, t.i ≠ j) → j ∈ Region.ready .any ops (setT T LP)
  | [], _ => hj
  | t :: T, h => ready_mono (ready_setT hj (fun t' ht => h t' (List.mem_cons_of_mem _ ht))) (Ne.symm (h t List.mem_cons_self))
theorem free_setT {LP : Array Bool} {j : Nat} {T : List Tk} (h : Region.free .any ops LP j = true) : Region.free .any ops (setT T LP) j = true := by
  unfold Region.free at h ⊢
  split at h
  · cases h
  · rename_i oi hoi
    rw [List.all_eq_true] at h ⊢
    intro x hx
    have h1 := h x hx
    simp only [Bool.or_eq_true] at h1 ⊢
    rcases h1 with (h1 | h1) | h1
    · exact .inl (.inl h1)
    · refine .inl (.inr ?_)
      cases hc : (setT T LP).getD x true with
      | true => rfl
      | false => rw [(setT_un hc).1] at h1; cases h1
    · exact .inr h1
theorem free_set {LP : Array Bool} {j i : Nat} (h : Region.free .any ops LP j = true) : Region.free .any ops (LP.setIfInBounds i true) j = true :=
  free_setT (T := [⟨i, 0, 0, 0, #[]⟩]) h
/-- An operation that the plan sees is apart from what was made ahead. -/
theorem apartT {P : Program} (hfl : FloOk P ops fl) {LP : Array Bool} {T : List Tk} {j : Nat} {oj : Oper} (hoj : ops[j]? = some oj) (hj : j ∈ Region.ready .any ops LP) (hT : ∀ t ∈ T, fl t.i = true ∧ LP.getD t.i true = false ∧ ∃ o, ops[t.i]? = some o ∧ o.dst = some t.d) (hne : ∀ t ∈ T, t.i ≠ j) :
    ∀ t ∈ T, t.d ∉ oj.looksAt ops ∧ oj.dst ≠ some t.d := by
  intro t ht
  obtain ⟨h1, h2, o, ho, hd⟩ := hT t ht
  obtain ⟨o', ty, d, inf, z, g1, g2, g3, g4, g5, g6, g7, g8⟩ := hfl t.i h1
  rw [ho] at g1
  injection g1 with g1
  subst g1
  obtain ⟨hun, o2, ho2, hall⟩ := mem_ready.1 hj
  rw [hoj] at ho2
  injection ho2 with ho2
  subst ho2
  rcases g8 j oj hoj (Ne.symm (hne t ht)) with ⟨e, he, hb, hon⟩ | hap
  · have := hall e he hb
    rw [hon, getD_tf h2] at this
    cases this
  · obtain ⟨q1, q2, _⟩ := Oper.apart_spec hap
    exact ⟨q1 t.d hd, q2 t.d hd⟩
end
section
variable {P : Program}
theorem evalPlan_cons {call : CallE} {s0 : AS} {floor : Nat} {ops : Array Oper} {t : Stp} {l : List Stp} {f : Fr} {s : AS} {kl tl : List (Nat × Nat)} :
    evalPlan P call s0 floor ops (t :: l) f s kl tl = match planOne P call s0 floor ops t f s kl tl with
      | some (f', s', kl', tl') => evalPlan P call s0 floor ops l f' s' kl' tl'
      | none => none := rfl
/-- What one step does to the two lists. -/
theorem planOne_lists {call : CallE} {s0 : AS} {floor : Nat} {ops : Array Oper} {t : Stp} {f f' : Fr} {s s' : AS} {kl tl kl' tl' : List (Nat × Nat)} (h : planOne P call s0 floor ops t f s kl tl = some (f', s', kl', tl')) :
    (kl' = kl ∨ ∃ i k, t = .held i ∧ kl' = (i, k) :: kl ∧ hasK tl k = false) ∧ (tl' = tl ∨ ∃ i ws, t = .solo i ∧ tl' = ws.map (fun k => (i, k)) ++ tl ∧ waitsAll ops i ws kl = true) := by
  unfold planOne at h
  split at h
  · repeat' (split at h)
    all_goals first
      | (cases h; done)
      | (injection h with h; injection h with _ h; injection h with _ h; injection h with h1 h2; subst h1 h2; exact ⟨.inl rfl, .inl rfl⟩)
  · split at h
    · split at h
      · split at h
        · split at h
          · rename_i ht
            injection h with h; injection h with _ h; injection h with _ h; injection h with h1 h2; subst h1 h2
            exact ⟨.inr ⟨_, _, rfl, rfl, ht⟩, .inl rfl⟩
          · cases h
        · cases h
      · injection h with h; injection h with _ h; injection h with _ h; injection h with h1 h2; subst h1 h2; exact ⟨.inl rfl, .inl rfl⟩
      · cases h
    · cases h
  · split at h
    · split at h
      · split at h
        · split at h
          · rename_i ht
            injection h with h; injection h with _ h; injection h with _ h; injection h with h1 h2; subst h1 h2
            exact ⟨.inl rfl, .inr ⟨_, _, rfl, by rw [appL_eq, mapL_eq], ht⟩⟩
          · cases h
        · cases h
      · injection h with h; injection h with _ h; injection h with _ h; injection h with h1 h2; subst h1 h2; exact ⟨.inl rfl, .inl rfl⟩
      · cases h
    · cases h
  all_goals
    repeat' (split at h)
    all_goals first
      | (cases h; done)
      | (injection h with h; injection h with _ h; injection h with _ h; injection h with h1 h2; subst h1 h2; exact ⟨.inl rfl, .inl rfl⟩)
/-- The steps' own number has not come up. -/
theorem plan_un {ops : Array Oper} {fl : Nat → Bool} {t : Stp} {l : List Stp} {LP : Array Bool} (h : PlanOk ops fl (t :: l) LP) :
    ∃ LP', PlanOk ops fl l LP' ∧ (∀ j, LP'.getD j true = false → LP.getD j true = false) ∧ (∀ i, (t = .held i ∨ t = .solo i ∨ t = .early i) → LP.getD i true = false ∧ LP'.getD i true = true) := by
  have set_un : ∀ {L : Array Bool} {i j : Nat}, (L.setIfInBounds i true).getD j true = false → L.getD j true = false := fun {L i j} h => by
    by_cases e : i = j
    · subst e
      rcases Nat.lt_or_ge i L.size with h' | h'
      · simp [Array.getD, h'] at h
      · simp [Array.getD, Nat.not_lt.2 h'] at h
    · rw [getD_set_ne true e] at h; exact h
  have set_t : ∀ {L : Array Bool} {i : Nat}, (L.setIfInBounds i true).getD i true = true := fun {L i} => by
    rcases Nat.lt_or_ge i L.size with h' | h'
    · simp [Array.getD, h']
    · simp [Array.getD, Nat.not_lt.2 h']
  cases t with
  | early i => exact ⟨_, h.2.2.2.2, fun _ => set_un, fun k hk => by rcases hk with e | e | e <;> cases e; exact ⟨(mem_ready.1 h.2.1).1, set_t⟩⟩
  | held i => exact ⟨_, h.2.2.2.2, fun _ => set_un, fun k hk => by rcases hk with e | e | e <;> cases e; exact ⟨(mem_ready.1 h.2.1).1, set_t⟩⟩
  | solo i => exact ⟨_, h.2.2.2.2, fun _ => set_un, fun k hk => by rcases hk with e | e | e <;> cases e; exact ⟨(mem_ready.1 h.2.1).1, set_t⟩⟩
  | flo i => exact ⟨_, h.2.2.2.2, fun _ => set_un, fun k hk => by rcases hk with e | e | e <;> cases e⟩
  | pair i j => exact ⟨_, h.2.2.2.2.2, fun _ hx => set_un (set_un hx), fun k hk => by rcases hk with e | e | e <;> cases e⟩
theorem evalPlan_lists {call : CallE} {s0 : AS} {floor : Nat} {ops : Array Oper} {fl : Nat → Bool} : ∀ (l : List Stp) {LP : Array Bool} {f f' : Fr} {s s' : AS} {kl tl tf : List (Nat × Nat)}, PlanOk ops fl l LP → evalPlan P call s0 floor ops l f s kl tl = some (f', s', tf) →
    (∀ p ∈ tl, p ∈ tf) ∧ (∀ p ∈ tf, p ∈ tl ∨ LP.getD p.1 true = false) ∧ (∀ q ∈ kl, ∀ p ∈ tf, p.2 = q.2 → p ∈ tl ∨ ReachE ops p.1 q.1)
  | [], LP, f, f', s, s', kl, tl, tf, hp, h => by
    have h' : some (f, s, tl) = some (f', s', tf) := h
    injection h' with h'
    injection h' with _ h'
    injection h' with _ h'
    subst h'
    exact ⟨fun _ h => h, fun _ h => .inl h, fun _ _ _ h _ => .inl h⟩
  | t :: l, LP, f, f', s, s', kl, tl, tf, hp, h => by
    rw [evalPlan_cons] at h
    split at h
    · rename_i f1 s1 kl1 tl1 h1
      obtain ⟨a1, a2⟩ := planOne_lists h1
      obtain ⟨LP', p1, p2, p3⟩ := plan_un hp
      obtain ⟨b1, b2, b3⟩ := evalPlan_lists l p1 h
      have hkl : ∀ q ∈ kl, q ∈ kl1 := fun q hq => by
        rcases a1 with rfl | ⟨i, k, _, rfl, _⟩
        · exact hq
        · exact List.mem_cons_of_mem _ hq
      rcases a2 with rfl | ⟨i, k, e, rfl, hw⟩
      · refine ⟨b1, fun p hp => ?_, fun q hq p hp e => b3 q (hkl q hq) p hp e⟩
        rcases b2 p hp with h2 | h2
        · exact .inl h2
        · exact .inr (p2 _ h2)
      · obtain ⟨g1, g2⟩ := p3 i (.inr (.inl e))
        refine ⟨fun p hp => b1 p (List.mem_append_right _ hp), fun p hp => ?_, fun q hq p hp e2 => ?_⟩
        · rcases b2 p hp with h2 | h2
          · rcases List.mem_append.1 h2 with h2 | h2
            · obtain ⟨k', _, rfl⟩ := List.mem_map.1 h2
              exact .inr g1
            · exact .inl h2
          · exact .inr (p2 _ h2)
        · rcases b3 q (hkl q hq) p hp e2 with h2 | h2
          · rcases List.mem_append.1 h2 with h2 | h2
            · obtain ⟨k', hk', rfl⟩ := List.mem_map.1 h2
              exact .inr (waitsAll_ok hw q hq (by rw [← e2]; exact hk'))
            · exact .inl h2
          · exact .inr h2
    · cases h
end
end Go.Proofs.Ytfoldiieclfbgaa
set_option linter.unusedVariables false
set_option linter.unusedSectionVars false
set_option linter.unusedSimpArgs false
namespace Go.Proofs.Ytfoldiieclfbgaa
open Go Go.RowKit
variable [Env] [Know]

/-- What stood where the region began stands yet, where no writer has come up. -/
def Stands (R0 : Rho) (s0 : AS) (w0 : World) (tf : List (Nat × Nat)) (L : Array Bool) (w : World) : Prop :=
  ∀ k b T B, look k s0.h = some B → (∀ j, (j, k) ∈ tf → L.getD j false = false) → R0 k b T → w.heap[b]? = w0.heap[b]?
theorem getD_set_f {L : Array Bool} {i j : Nat} (h : (L.setIfInBounds i true).getD j false = false) : L.getD j false = false := by
  cases hc : L.getD j false with
  | false => rfl
  | true => rw [getD_set_true hc] at h; cases h
theorem Stands.set {R0 : Rho} {s0 : AS} {w0 : World} {tf : List (Nat × Nat)} (L : Array Bool) (i : Nat) (w : World) (h : Stands R0 s0 w0 tf L w) : Stands R0 s0 w0 tf (L.setIfInBounds i true) w :=
  fun k b T B hk hn hr => h k b T B hk (fun j hj => getD_set_f (hn j hj)) hr
theorem Stands.unset {R0 : Rho} {s0 : AS} {w0 : World} {tf : List (Nat × Nat)} {i : Nat} (hi : ∀ p ∈ tf, p.1 ≠ i) (L : Array Bool) (w : World) (h : Stands R0 s0 w0 tf (L.setIfInBounds i true) w) : Stands R0 s0 w0 tf L w :=
  fun k b T B hk hn hr => h k b T B hk (fun j hj => by rw [getD_set_ne false (Ne.symm (hi _ hj))]; exact hn j hj) hr
def Live (s0 : AS) (tf : List (Nat × Nat)) (LP : Array Bool) (s : AS) : Prop :=
  ∀ k B, look k s0.h = some B → (∀ j, (j, k) ∈ tf → LP.getD j false = false) → look k s.h = look k s0.h
/-- A cell that was made ahead. -/
structure TkOk (P : Program) (ops : Array Oper) (fl : Nat → Bool) (w0 : World) (R : Rho) (w : World) (LP : Array Bool) (t : Tk) : Prop where
  isf : fl t.i = true
  un : LP.getD t.i true = false
  op : ∃ o inf z, ops[t.i]? = some o ∧ o.op = .alloc t.ty ∧ o.dst = some t.d ∧ P.info? t.ty = some inf ∧ inf.zero = some z ∧ t.C = z.cells
  blk : w.heap[t.b]? = some (.cells t.C t.ty (0, 0))
  new : w0.heap.size ≤ t.b
  no : ∀ k T', ¬ R k t.b T'
def Far (t u : Tk) : Prop := t.b ≠ u.b ∧ t.i ≠ u.i ∧ t.d ≠ u.d
theorem Far.symm {t u : Tk} (h : Far t u) : Far u t := ⟨h.1.symm, h.2.1.symm, h.2.2.symm⟩
theorem wpOp_load {P : Program} {ops : Array Oper} {Q : Exit → Act → World → Prop} {i : Nat} {o : Oper} {K : Act → World → Prop} {a : Act} {w : World} {x : Value} (hi : ops[i]? = some o) (hg : o.guard = none) {w' : World}
    (hr : (execOp a.eval o).run P w = .ok (.value x) w') (h : K (a.put o.dst x) w') : wpOp P ops Q i K a w := by
  unfold wpOp
  simp only [hi]
  rw [if_pos (by simp [Region.wanted, hg])]
  left
  unfold Oper.wp
  rw [hr]
  exact h
theorem noSel_of {ops : Array Oper} (hs : Region.noSelect ops = true) {i : Nat} {o : Oper} (hi : ops[i]? = some o) : ∀ cs b, o.op ≠ .select cs b := fun cs b => Region.noSelect_spec hs i o cs b hi
section
variable {P : Program} {ops : Array Oper} {fl : Nat → Bool} {w0 : World}
theorem TkOk.turn {R R' : Rho} {w w' : World} {LP LP' : Array Bool} {t : Tk} (h : TkOk P ops fl w0 R w LP t) (hun : LP'.getD t.i true = false) (hb : w'.heap[t.b]? = w.heap[t.b]?) (hno : ∀ k T', ¬ R' k t.b T') : TkOk P ops fl w0 R' w' LP' t :=
  ⟨h.isf, hun, h.op, hb.trans h.blk, h.new, hno⟩
theorem TkOk.lt {R : Rho} {w : World} {LP : Array Bool} {t : Tk} (h : TkOk P ops fl w0 R w LP t) : t.b < w.heap.size := by
  rcases Nat.lt_or_ge t.b w.heap.size with c | c
  · exact c
  · have := h.blk; rw [Array.getElem?_eq_none c] at this; cases this
set_option maxHeartbeats 3200000 in
theorem evalPlan_ok (hKn : KnowOk P) {call : CallE} (hcall : CallOk P call) {R0 : Rho} {s0 : AS} {floor base : Nat} (hns : Region.noSelect ops = true) {Q : Exit → Act → World → Prop} (hQ : ∀ c a w, ¬ Q (.panic c) a w)
    (hfl : FloOk P ops fl) {tf : List (Nat × Nat)} (hI0 : Inv R0 s0 w0 floor base) {a0 : Act} {f' : Fr} {s' : AS}
    (hK : ∀ R' a' w', Went R0 R' s0 s' w0 w' floor base → FRel R' f' a'.tmps → a'.defers = a0.defers → Q .normal a' w') :
    ∀ (N : Nat) (l : List Stp) {fuel : Nat} {LP : Array Bool} {T : List Tk} {R : Rho} {f : Fr} {s : AS} {aP : Act} {w : World} {kl tl : List (Nat × Nat)},
      fuel + l.length ≤ N → PlanOk ops fl l LP → evalPlan P call s0 floor ops l f s kl tl = some (f', s', tf) →
      Down ops (setT T LP) → cnt (setT T LP) ≤ fuel → (∀ t ∈ T, TkOk P ops fl w0 R w LP t) → T.Pairwise Far → Went R0 R s0 s w0 w floor base → FRel R f aP.tmps → aP.defers = a0.defers →
      Live s0 tf LP s → Stands R0 s0 w0 tf (setT T LP) w → (∀ p ∈ tl, LP.getD p.1 true = true) →
      wpAnyU P ops Q (Stands R0 s0 w0 tf) fuel (setT T LP) (putT T aP) w := by
  have hsel := Region.noSelect_spec hns
  intro N
  induction N with
  | zero =>
    intro l fuel LP T R f s aP w kl tl hN hp h hD hc hT hTp hG hf hd hL hS htl
    obtain rfl : fuel = 0 := by omega
    obtain rfl : l = [] := List.eq_nil_of_length_eq_zero (by omega)
    have hTn : T = [] := by
      cases T with
      | nil => rfl
      | cons t T =>
        exfalso
        have h1 := hT t List.mem_cons_self
        obtain ⟨o, ty, d, inf, z, g1, g2, g3, g4, g5, g6, g7, g8⟩ := hfl t.i h1.isf
        have : t.i ∈ Region.ready .any ops LP := mem_ready.2 ⟨h1.un, o, g1, fun e he hb => by rw [g7 e he] at hb; cases hb⟩
        rw [show Region.ready .any ops LP = [] from hp] at this
        cases this
    subst hTn
    have h' : some (f, s, tl) = some (f', s', tf) := h
    injection h' with h'
    injection h' with h1 h'
    injection h' with h2 h3
    subst h1 h2
    exact wpAnyU_done hp (hK R aP w hG hf hd) _
  | succ N ih =>
    intro l fuel LP T R f s aP w kl tl hN hp h hD hc hT hTp hG hf hd hL hS htl
    have hI := hG.inv
    have hTf : ∀ t ∈ T, fl t.i = true ∧ LP.getD t.i true = false := fun t ht => ⟨(hT t ht).isf, (hT t ht).un⟩
    have hTf2 : ∀ t ∈ T, fl t.i = true ∧ LP.getD t.i true = false ∧ ∃ o, ops[t.i]? = some o ∧ o.dst = some t.d := fun t ht =>
      let ⟨o, _, _, h1, _, h2, _⟩ := (hT t ht).op
      ⟨(hT t ht).isf, (hT t ht).un, o, h1, h2⟩
    have fuel_pos : ∀ {j}, j ∈ Region.ready .any ops (setT T LP) → ∃ n, fuel = n + 1 := fun {j} hj => by
      have := cnt_pos (mem_ready.1 hj).1
      exact ⟨fuel - 1, by omega⟩
    have cnt_next : ∀ {j n}, j ∈ Region.ready .any ops (setT T LP) → fuel = n + 1 → cnt ((setT T LP).setIfInBounds j true) ≤ n := fun {j n} hj hn => by
      have := cnt_set (mem_ready.1 hj).1
      omega
    -- a floating one is made now
    have float : ∀ m ∈ Region.ready .any ops (setT T LP), fl m = true → ∀ n, fuel = n + 1 →
        wpOp P ops Q m (fun a' w' => Stands R0 s0 w0 tf ((setT T LP).setIfInBounds m true) w' ∧ wpAnyU P ops Q (Stands R0 s0 w0 tf) n ((setT T LP).setIfInBounds m true) a' w') (putT T aP) w := by
      intro m hm hmf n hn
      obtain ⟨o, ty, d, inf, z, g1, g2, g3, g4, g5, g6, g7, g8⟩ := hfl m hmf
      obtain ⟨hun1, hun2⟩ := setT_un (mem_ready.1 hm).1
      let t : Tk := ⟨m, d, w.heap.size, ty, z.cells⟩
      let w1 : World := { w with heap := w.heap.push (.cells z.cells ty) }
      have hbl : Below w.heap.size w w1 := ⟨rfl, rfl, rfl, by show w.heap.size ≤ (w.heap.push _).size; simp, fun k hk => by show (w.heap.push _)[k]? = _; rw [Array.getElem?_push, if_neg (by omega)]⟩
      have hrun : (execOp (putT T aP).eval o).run P w = .ok (.value t.p) w1 := by
        obtain ⟨dst, op, type, pos, after, guard⟩ := o
        simp only at g2
        subst g2
        simp [execOp, Instr.alloc, zeroValue, typeInfo, g5, g6, newVar, newRow, t, Tk.p, w1]
      refine wpOp_load g1 g4 hrun ?_
      have hS1 : Stands R0 s0 w0 tf ((setT T LP).setIfInBounds m true) w1 := by
        refine Stands.set _ _ _ ?_
        intro k b T' B hk hn hr
        refine (hbl.block b ?_).trans (hS k b T' B hk hn hr)
        exact Nat.lt_of_lt_of_le (hI0.rel.dom hr).2 hG.below.size
      refine ⟨hS1, ?_⟩
      rw [g3]
      have hTnew : TkOk P ops fl w0 R w1 LP t := ⟨hmf, hun1, ⟨o, inf, z, g1, g2, g3, g5, g6, rfl⟩, by show (w.heap.push _)[w.heap.size]? = _; simp [t], hG.below.size, fun k T' r => by have := (hI.rel.dom r).2; exact absurd this (Nat.lt_irrefl _)⟩
      refine ih l (T := t :: T) (LP := LP) (R := R) (aP := aP) (by omega) hp h (hD.set hm) (cnt_next hm hn) ?_ ?_ ?_ hf hd hL hS1 htl
      · intro t' ht'
        rcases List.mem_cons.1 ht' with rfl | ht'
        · exact hTnew
        · exact (hT t' ht').turn (hT t' ht').un (hbl.block _ (hT t' ht').lt) (hT t' ht').no
      · refine List.pairwise_cons.2 ⟨fun u hu => ⟨?_, ?_, ?_⟩, hTp⟩
        · have := (hT u hu).lt
          show w.heap.size ≠ u.b
          omega
        · exact Ne.symm (hun2 u hu)
        · obtain ⟨ou, _, _, q1, _, q3, _⟩ := (hT u hu).op
          rcases g8 u.i ou q1 (hun2 u hu) with ⟨e, he, hb, hon⟩ | hap
          · obtain ⟨o2, ty2, d2, inf2, z2, k1, k2, k3, k4, k5, k6, k7, k8⟩ := hfl u.i (hT u hu).isf
            rw [q1] at k1
            injection k1 with k1
            subst k1
            rw [k7 e he] at hb
            cases hb
          · have := (Oper.apart_spec hap).2.1 d g3
            intro e
            exact this (by rw [q3]; exact congrArg some e.symm)
      · exact ⟨hG.ext, hG.old, hG.num, hG.keep, ⟨⟨hI.rel.fn, fun r => ⟨(hI.rel.dom r).1, Nat.lt_of_lt_of_le (hI.rel.dom r).2 hbl.size⟩, hI.rel.inj, fun hk => let ⟨b, T', r, q⟩ := hI.rel.blk hk; ⟨b, T', r, q.of_block (hbl.block b (hI.rel.dom r).2)⟩⟩, Nat.le_trans hI.hb hbl.size, hI.hf, hI.own, fun hg => hI.glo_below hg (hbl.mono hI.hb), hI.kgl⟩, hG.below.trans (hbl.mono hI.hb), hG.fresh, hG.more, fun hk r hn => let ⟨c1, c2⟩ := hG.wrote hk r hn; ⟨(hbl.block _ (Nat.lt_of_lt_of_le (hI0.rel.dom r).2 hG.below.size)).trans c1, c2⟩, fun b hb hn => (hbl.block b (Nat.lt_of_lt_of_le hb hG.below.size)).trans (hG.other b hb hn)⟩
    have setT_t : ∀ {L : Array Bool} {i : Nat}, (L.setIfInBounds i true).getD i true = true := fun {L i} => by
      rcases Nat.lt_or_ge i L.size with h' | h'
      · simp [Array.getD, h']
      · simp [Array.getD, Nat.not_lt.2 h']
    have keep_t : ∀ {L : Array Bool} {i j : Nat}, L.getD j true = true → (L.setIfInBounds i true).getD j true = true := fun {L i j} h => by
      by_cases e : i = j
      · subst e; exact setT_t
      · rw [getD_set_ne true e]; exact h
    have set_tf : ∀ {L : Array Bool} {i : Nat}, L.getD i true = false → (L.setIfInBounds i true).getD i false = true := fun {L i} h => by
      rcases Nat.lt_or_ge i L.size with h' | h'
      · simp [Array.getD, h']
      · simp [Array.getElem?_eq_none h'] at h
    -- on to the next step
    have cont : ∀ {i n : Nat} {r : List Stp} {o : Oper} {R1 : Rho} {f1 : Fr} {s1 : AS} {x : Value} {w1 : World} {kl1 tl1 : List (Nat × Nat)}, fuel = n + 1 → n + r.length ≤ N → PlanOk ops fl r (LP.setIfInBounds i true) → evalPlan P call s0 floor ops r f1 s1 kl1 tl1 = some (f', s', tf) → i ∈ Region.ready .any ops (setT T LP) → (∀ t ∈ T, t.i ≠ i) → (∀ t ∈ T, TkOk P ops fl w0 R1 w1 LP t) → Went R0 R1 s0 s1 w0 w1 floor base →
        FRel R1 f1 (aP.put o.dst x).tmps → Live s0 tf (LP.setIfInBounds i true) s1 → Stands R0 s0 w0 tf ((setT T LP).setIfInBounds i true) w1 → (∀ p ∈ tl1, (LP.setIfInBounds i true).getD p.1 true = true) →
        wpAnyU P ops Q (Stands R0 s0 w0 tf) n ((setT T LP).setIfInBounds i true) (putT T (aP.put o.dst x)) w1 := by
      intro i n r o R1 f1 s1 x w1 kl1 tl1 hn hN' hp' h' hi hne hT' hG' hf' hL' hS' htl'
      have hD' := hD.set hi
      have hc' := cnt_next hi hn
      rw [← setT_set] at hD' hc' hS' ⊢
      refine ih r hN' hp' h' hD' hc' (fun t ht => ?_) hTp hG' hf' (by rw [put_defers]; exact hd) hL' hS' htl'
      exact (hT' t ht).turn (by rw [getD_set_ne true (Ne.symm (hne t ht))]; exact (hT' t ht).un) rfl (hT' t ht).no
    cases l with
    | nil =>
      have hTn : T = [] := by
        cases T with
        | nil => rfl
        | cons t T =>
          exfalso
          have h1 := hT t List.mem_cons_self
          obtain ⟨o, ty, d, inf, z, g1, g2, g3, g4, g5, g6, g7, g8⟩ := hfl t.i h1.isf
          have : t.i ∈ Region.ready .any ops LP := mem_ready.2 ⟨h1.un, o, g1, fun e he hb => by rw [g7 e he] at hb; cases hb⟩
          rw [show Region.ready .any ops LP = [] from hp] at this
          cases this
      subst hTn
      have h' : some (f, s, tl) = some (f', s', tf) := h
      injection h' with h'
      injection h' with h1 h'
      injection h' with h2 h3
      subst h1 h2
      exact wpAnyU_done hp (hK R aP w hG hf hd) _
    | cons t l =>
      rw [evalPlan_cons] at h
      split at h
      case h_2 => cases h
      rename_i f1 s1 kl1 tl1 h1
      have hlen : fuel + (l.length + 1) ≤ N + 1 := hN
      cases t with
      | early i =>
        obtain ⟨p0, p1, p2, p3, p4⟩ := hp
        have hne : ∀ t ∈ T, t.i ≠ i := fun t ht e => by rw [← e, (hT t ht).isf] at p0; cases p0
        have hr := ready_setT p1 hne
        obtain ⟨n, rfl⟩ := fuel_pos hr
        obtain ⟨_, b2, _⟩ := evalPlan_lists l p4 h
        simp only [planOne] at h1
        split at h1
        · rename_i o ho
          have hap := apartT hfl ho p1 hTf2 hne
          have go : ∀ {v : AV} {x : Value}, VRel R v x → YieldsIf P ops (Si ops (Stands R0 s0 w0 tf) i) o x (putT T aP) → (putA f o.dst v, s, kl, tl) = (f1, s1, kl1, tl1) → wpAnyU P ops Q (Stands R0 s0 w0 tf) (n + 1) (setT T LP) (putT T aP) w := by
            intro v x hx hy he
            injection he with e1 he
            injection he with e2 he
            injection he with e3 e4
            subst e1 e2 e3 e4
            have hin2 : ∀ p ∈ tf, p.1 ≠ i := fun p hp e => by
              rcases b2 p hp with h2 | h2
              · have := htl p h2
                rw [e, (mem_ready.1 p1).1] at this
                cases this
              · rw [e, setT_t] at h2; cases h2
            refine wpAnyU_take hns (fun L i w h => Stands.set L i w h) hQ ho (free_setT p2) (Stands.unset hin2) hr hD hy hS ?_
            rw [← putT_put T aP o.dst x (fun t ht => (hap t ht).2)]
            exact cont rfl (by omega) p4 h hr hne hT hG (putA_ok hf o.dst hx) (fun k B hk hn => hL k B hk (fun j hj => getD_set_f (hn j hj))) (Stands.set _ _ _ hS) (fun p hp => keep_t (htl p hp))
          split at h1
          · rename_i hw
            have hw := wantA_ok hf hw
            split at h1
            · rename_i v hv
              obtain ⟨x, hx, hrun⟩ := evalWl_ok hKn hv hf
              exact go hx (.inl ⟨by rw [wanted_putT T aP hap]; exact hw, fun w' _ => by rw [execOp_putT (noSel_of hns ho) T aP hap]; exact hrun w'⟩) (Option.some.inj h1)
            · cases h1
          · rename_i hw
            have hw := wantA_ok hf hw
            exact go (VRel.lit_ undef) (.inr ⟨by rw [wanted_putT T aP hap]; exact hw, rfl⟩) (Option.some.inj h1)
          · cases h1
        · cases h1
      | held i =>
        obtain ⟨p0, p1, p2, p3, p4⟩ := hp
        have hne : ∀ t ∈ T, t.i ≠ i := fun t ht e => by rw [← e, (hT t ht).isf] at p0; cases p0
        have hr := ready_setT p1 hne
        obtain ⟨n, rfl⟩ := fuel_pos hr
        obtain ⟨_, b2, b3⟩ := evalPlan_lists l p4 h
        simp only [planOne] at h1
        split at h1
        · rename_i o ho
          have hap := apartT hfl ho p1 hTf2 hne
          have go : ∀ {v : AV} {x : Value}, VRel R v x → YieldsIf P ops (Si ops (Stands R0 s0 w0 tf) i) o x (putT T aP) → putA f o.dst v = f1 → s = s1 → tl = tl1 → wpAnyU P ops Q (Stands R0 s0 w0 tf) (n + 1) (setT T LP) (putT T aP) w := by
            intro v x hx hy e1 e2 e4
            subst e1 e2 e4
            have hin2 : ∀ p ∈ tf, p.1 ≠ i := fun p hp e => by
              rcases b2 p hp with h2 | h2
              · have := htl p h2
                rw [e, (mem_ready.1 p1).1] at this
                cases this
              · rw [e, setT_t] at h2; cases h2
            refine wpAnyU_take hns (fun L i w h => Stands.set L i w h) hQ ho (free_setT p2) (Stands.unset hin2) hr hD hy hS ?_
            rw [← putT_put T aP o.dst x (fun t ht => (hap t ht).2)]
            exact cont rfl (by omega) p4 h hr hne hT hG (putA_ok hf o.dst hx) (fun k B hk hn => hL k B hk (fun j hj => getD_set_f (hn j hj))) (Stands.set _ _ _ hS) (fun p hp => keep_t (htl p hp))
          split at h1
          · rename_i hw
            have hw := wantA_ok hf hw
            split at h1
            · rename_i v k hv
              split at h1
              · rename_i B0 hB0 htk
                have h1 := Option.some.inj h1
                injection h1 with e1 h1
                injection h1 with e2 h1
                injection h1 with e3 e4
                obtain ⟨x, b, T', B, hx, hB, hrb, hrun⟩ := load_mem (P := P) hI hf hv
                have hk0 : k < s0.n := by
                  obtain ⟨b', T', r', _⟩ := hI0.rel.blk hB0
                  exact (hI0.rel.dom r').1
                have hr0' := hG.old hrb hk0
                have good : ∀ {L : Array Bool} {w' : World}, Down ops L → L.getD i true = false → Stands R0 s0 w0 tf L w' → w'.heap[b]? = w0.heap[b]? := by
                  intro L w' hDL hiL hSL
                  refine hSL k b T' B0 hB0 (fun j hj => ?_) hr0'
                  rcases b3 (i, k) (by rw [← e3]; exact List.mem_cons_self) (j, k) hj rfl with h2 | h2
                  · rw [← e4] at h2
                    exact absurd rfl (hasK_false htk _ h2)
                  · cases hc : L.getD j false with
                    | false => rfl
                    | true =>
                      have := hDL.of_listed h2 hc
                      rw [getD_tf hiL] at this
                      cases this
                refine go hx (.inl ⟨by rw [wanted_putT T aP hap]; exact hw, fun w' hw' => ?_⟩) e1 e2 e4
                rw [execOp_putT (noSel_of hns ho) T aP hap]
                obtain ⟨L, hDL, hiL, hSL⟩ := hw'
                exact hrun w' ((good hDL hiL hSL).trans (good hD (mem_ready.1 hr).1 hS).symm)
              · cases h1
            · cases h1
          · rename_i hw
            have hw := wantA_ok hf hw
            have h1 := Option.some.inj h1
            injection h1 with e1 h1
            injection h1 with e2 h1
            injection h1 with e3 e4
            exact go (VRel.lit_ undef) (.inr ⟨by rw [wanted_putT T aP hap]; exact hw, rfl⟩) e1 e2 e4
          · cases h1
        · cases h1
      | solo i =>
        obtain ⟨p0, p1, p2, p3, p4⟩ := hp
        have hne : ∀ t ∈ T, t.i ≠ i := fun t ht e => by rw [← e, (hT t ht).isf] at p0; cases p0
        have hr := ready_setT p1 hne
        obtain ⟨n, rfl⟩ := fuel_pos hr
        obtain ⟨b1, b2, b3⟩ := evalPlan_lists l p4 h
        have hiu := (mem_ready.1 p1).1
        refine ⟨fun h0 => (by rw [h0] at hr; cases hr), fun m hm => ?_⟩
        cases hmf : fl m with
        | true => exact float m hm hmf n rfl
        | false =>
          have hmi : m = i := by
            rcases p2 m (noStray hD hiu hne p3 hTf hm) with e | e
            · exact e
            · rw [hmf] at e; cases e
          subst hmi
          simp only [planOne] at h1
          split at h1
          · rename_i o ho
            have hap := apartT hfl ho p1 hTf2 hne
            refine wpOp_putT hQ ho (noSel_of hns ho) T hap ?_
            unfold wpOp
            simp only [ho]
            split at h1
            · rename_i hw
              have hw := wantA_ok hf hw
              rw [if_pos hw]
              left
              split at h1
              · rename_i v s2 hv
                split at h1
                · have h1 := Option.some.inj h1
                  injection h1 with e1 h1
                  injection h1 with e2 h1
                  injection h1 with e3 e4
                  rw [appL_eq, mapL_eq] at e4
                  subst e1 e2
                  have htg : ∀ k, k ∈ s2.wr → (m, k) ∈ tf := fun k hk => b1 _ (by rw [← e4]; exact List.mem_append_left _ (List.mem_map.2 ⟨k, hk, rfl⟩))
                  have htl1 : ∀ p ∈ tl1, (LP.setIfInBounds m true).getD p.1 true = true := fun p hp => by
                    rw [← e4] at hp
                    rcases List.mem_append.1 hp with hp | hp
                    · obtain ⟨k', _, rfl⟩ := List.mem_map.1 hp
                      exact setT_t
                    · exact keep_t (htl p hp)
                  refine evalOp_ok hKn hcall (hI.wr_ []) hf hv fun R' x w' hx hg0 => ?_
                  have hg := hg0.merge
                  have hS' : Stands R0 s0 w0 tf ((setT T LP).setIfInBounds m true) w' := by
                    intro k b T' B hk hn hrb
                    have hk2 := hL k B hk (fun j hj => by
                      cases hc : LP.getD j false with
                      | false => rfl
                      | true =>
                        have := getD_set_f (hn j hj)
                        rw [setT_up hc] at this; cases this)
                    rw [hk] at hk2
                    have := (hg0.wrote hk2 (hG.ext _ _ _ hrb) (fun e => by
                      have h9 := hn m (htg k e)
                      rw [set_tf (mem_ready.1 hr).1] at h9; cases h9)).1
                    exact this.trans (hS k b T' B hk (fun j hj => getD_set_f (hn j hj)) hrb)
                  refine ⟨hS', ?_⟩
                  refine cont rfl (by omega) p4 h hr hne (fun t ht => ?_) (hG.trans hg) (putA_ok (hf.ext hg.ext) o.dst hx) (fun k B hk hn => ?_) hS' htl1
                  · have hno : ∀ k T', ¬ R' k t.b T' := fun k T' r => by
                      rcases hg.fresh r with ⟨k0, T0, r0⟩ | hb
                      · exact (hT t ht).no _ _ r0
                      · have := (hT t ht).lt; omega
                    exact (hT t ht).turn (hT t ht).un (hg.other t.b (hT t ht).lt hno) hno
                  · have hk2 := hL k B hk (fun j hj => getD_set_f (hn j hj))
                    have hk3 := hk2
                    rw [hk] at hk3
                    obtain ⟨b, T', r, _⟩ := hI.rel.blk hk3
                    exact ((hg0.wrote hk3 r (fun e => by
                      have h9 := hn m (htg k e)
                      rw [set_tf hiu] at h9; cases h9)).2).trans hk2
                · cases h1
              · cases h1
            · rename_i hw
              have hw := wantA_ok hf hw
              rw [if_neg (by simp [hw])]
              have h1 := Option.some.inj h1
              injection h1 with e1 h1
              injection h1 with e2 h1
              injection h1 with e3 e4
              subst e1 e2 e4
              exact ⟨Stands.set _ _ _ hS, cont rfl (by omega) p4 h hr hne hT hG (putA_ok hf o.dst (VRel.lit_ _)) (fun k B hk hn => hL k B hk (fun j hj => getD_set_f (hn j hj))) (Stands.set _ _ _ hS) (fun p hp => keep_t (htl p hp))⟩
            · cases h1
          · cases h1
      | flo i =>
        obtain ⟨p0, p1, p2, p3, p4⟩ := hp
        by_cases hin : ∃ t ∈ T, t.i = i
        · obtain ⟨t, ht, rfl⟩ := hin
          obtain ⟨T1, T2, rfl⟩ := List.append_of_mem ht
          have hpw := List.pairwise_append.1 hTp
          have hpw2 := List.pairwise_cons.1 hpw.2.1
          have hTt := hT t ht
          obtain ⟨o, inf, z, q1, q2, q3, q4, q5, q6⟩ := hTt.op
          have hfar : ∀ u ∈ T1 ++ T2, Far t u := fun u hu => by
            rcases List.mem_append.1 hu with hu | hu
            · exact (hpw.2.2 u hu t List.mem_cons_self).symm
            · exact hpw2.1 u hu
          have hsub : ∀ u ∈ T1 ++ T2, u ∈ T1 ++ t :: T2 := fun u hu => by
            rcases List.mem_append.1 hu with hu | hu
            · exact List.mem_append_left _ hu
            · exact List.mem_append_right _ (List.mem_cons_of_mem _ hu)
          simp only [planOne, q1, q2, q4, q5] at h1
          have h1 := Option.some.inj h1
          injection h1 with e1 h1
          injection h1 with e2 h1
          injection h1 with e3 e4
          subst e1 e2 e3 e4
          rw [setT_out] at hD hc hS ⊢
          rw [putT_out T1 aP (fun u hu => (hpw2.1 u hu).2.2)]
          have hnb := hTt.no
          have hC : t.C.toList.take (mapL AV.lit z.cells.toList).length = z.cells.toList := by rw [q6, mapL_eq, List.length_map, List.take_length]
          have hA := hI.adopt (B := mapL AV.lit z.cells.toList) hTt.blk (Nat.le_trans hI0.hb hTt.new) hnb (by rw [hC, mapL_eq]; exact VRels.lits_ _) (by rw [mapL_eq, q6]; simp) (fz0 _)
          refine ih l (LP := LP.setIfInBounds t.i true) (T := T1 ++ T2) (R := fun k b T' => R k b T' ∨ (k = s.n ∧ b = t.b ∧ T' = t.C.size)) (aP := aP.put (some t.d) t.p) (by omega) p4 h hD hc (fun u hu => ?_) ?_ ?_ ?_ (by rw [put_defers]; exact hd) ?_ hS (fun p hp => keep_t (htl p hp))
          · have hu' := hT u (hsub u hu)
            refine hu'.turn (by rw [getD_set_ne true (hfar u hu).2.1]; exact hu'.un) rfl (fun k T' r => ?_)
            rcases r with r | ⟨_, e, _⟩
            · exact hu'.no _ _ r
            · exact (hfar u hu).1 e.symm
          · exact List.pairwise_append.2 ⟨hpw.1, hpw2.2, fun x hx y hy => hpw.2.2 x hx y (List.mem_cons_of_mem _ hy)⟩
          · have hs0 := hG.num
            refine ⟨fun _ _ _ r => .inl (hG.ext _ _ _ r), fun r hk => ?_, by show s0.n ≤ s.n + 1; omega, fun k hk => ?_, hA, hG.below, fun r => ?_, hG.more, fun {k b T' B} hk r hn => ?_, fun b hb hn => hG.other b hb (fun k T' r => hn k T' (.inl r))⟩
            · rcases r with r | ⟨e, _, _⟩
              · exact hG.old r hk
              · omega
            · have := hI0.hf
              show look k ((s.n, _) :: s.h) = _
              rw [look_cons, if_neg (by show ¬ s.n = k; omega)]
              exact hG.keep k hk
            · rcases r with r | ⟨_, e, _⟩
              · exact hG.fresh r
              · exact .inr (by rw [e]; exact hTt.new)
            · obtain ⟨c1, c2⟩ := hG.wrote hk r hn
              have := (hI0.rel.dom r).1
              refine ⟨c1, ?_⟩
              show look k ((s.n, _) :: s.h) = _
              rw [look_cons, if_neg (by show ¬ s.n = k; omega)]
              exact c2
          · rw [q3]
            refine putA_ok (hf.ext (fun _ _ _ r => .inl r)) (some t.d) ?_
            unfold VRel
            exact ⟨t.b, t.C.size, .inr ⟨rfl, rfl, rfl⟩, rfl⟩
          · intro k B hk hn
            have hk1 : k < s0.n := by
              obtain ⟨b', T', r', _⟩ := hI0.rel.blk hk
              exact (hI0.rel.dom r').1
            have := hG.num
            show look k ((s.n, _) :: s.h) = _
            rw [look_cons, if_neg (by show ¬ s.n = k; omega)]
            exact hL k B hk (fun j hj => getD_set_f (hn j hj))
        · have hne : ∀ t ∈ T, t.i ≠ i := fun t ht e => hin ⟨t, ht, e⟩
          have hr := ready_setT p1 hne
          obtain ⟨n, rfl⟩ := fuel_pos hr
          refine ⟨fun h0 => (by rw [h0] at hr; cases hr), fun m hm => ?_⟩
          cases hmf : fl m with
          | true => exact float m hm hmf n rfl
          | false =>
            have := p2 m (noStray hD (mem_ready.1 p1).1 hne p3 hTf hm)
            rw [hmf] at this; cases this
      | pair i j =>
        obtain ⟨p0, p1, p2, p3, ⟨oa, ob, ha, hb, ga, gb, hap, hij⟩, p4⟩ := hp
        have hTn : T = [] := by
          cases T with
          | nil => rfl
          | cons t T => have := (hT t List.mem_cons_self).isf; rw [p0] at this; cases this
        subst hTn
        have hri : i ∈ Region.ready .any ops LP := by rw [p1]; simp
        have hrj : j ∈ Region.ready .any ops LP := by rw [p1]; simp
        have hrj2 : j ∈ Region.ready .any ops (LP.setIfInBounds i true) := by rw [p2]; simp
        have hri2 : i ∈ Region.ready .any ops (LP.setIfInBounds j true) := by rw [p3]; simp
        have c1 := cnt_set (mem_ready.1 hri).1
        have c2 := cnt_set (mem_ready.1 hrj2).1
        have hc' : cnt LP ≤ fuel := hc
        obtain ⟨n, rfl⟩ : ∃ n, fuel = n + 1 + 1 := ⟨fuel - 2, by omega⟩
        simp only [planOne, ha, hb] at h1
        split at h1
        · rename_i u k1 v k2 hu hv
          have h1 := Option.some.inj h1
          injection h1 with e1 h1
          injection h1 with e2 h1
          injection h1 with e3 e4
          subst e1 e2 e3 e4
          obtain ⟨x, _, _, _, hx, _, _, hrx⟩ := load_mem (P := P) hI hf hu
          obtain ⟨y, _, _, _, hy, _, _, hry⟩ := load_mem (P := P) hI hf hv
          obtain ⟨q1, q2, q3⟩ := Oper.apart_spec hap
          have hSi : Stands R0 s0 w0 tf (LP.setIfInBounds i true) w := Stands.set _ _ _ hS
          have hSj : Stands R0 s0 w0 tf (LP.setIfInBounds j true) w := Stands.set _ _ _ hS
          have hSij : Stands R0 s0 w0 tf ((LP.setIfInBounds i true).setIfInBounds j true) w := Stands.set _ _ _ hSi
          have rest : wpAnyU P ops Q (Stands R0 s0 w0 tf) n ((LP.setIfInBounds i true).setIfInBounds j true) ((aP.put oa.dst x).put ob.dst y) w :=
            ih l (T := []) (LP := (LP.setIfInBounds i true).setIfInBounds j true) (aP := (aP.put oa.dst x).put ob.dst y) (by omega) p4 h (Down.set (Down.set hD hri) hrj2) (by show cnt ((LP.setIfInBounds i true).setIfInBounds j true) ≤ n; omega) (fun t ht => by cases ht) .nil hG (putA_ok (putA_ok hf oa.dst hx) ob.dst hy) (by rw [put_defers, put_defers]; exact hd)
              (fun k B hk hn => hL k B hk (fun j' hj' => getD_set_f (getD_set_f (hn j' hj')))) hSij (fun p hp => keep_t (keep_t (htl p hp)))
          refine ⟨fun h0 => (by rw [show Region.ready .any ops LP = [] from h0] at hri; cases hri), fun m hm => ?_⟩
          have hm : m = i ∨ m = j := by rw [show Region.ready .any ops (setT [] LP) = [i, j] from p1] at hm; simpa using hm
          rcases hm with rfl | rfl
          · refine wpOp_load ha ga (hrx w rfl) ⟨hSi, ?_⟩
            refine ⟨fun h0 => (by rw [show Region.ready .any ops (LP.setIfInBounds m true) = [] from h0] at hrj2; cases hrj2), fun m' hm' => ?_⟩
            have hm' : m' = j := by rw [show Region.ready .any ops ((setT [] LP).setIfInBounds m true) = [j] from p2] at hm'; simpa using hm'
            subst hm'
            refine wpOp_load hb gb (w' := w) ?_ ⟨hSij, rest⟩
            show (execOp (aP.put oa.dst x).eval ob).run P w = _
            rw [execOp_put ob (noSel_of hns hb) aP oa.dst x q1]
            exact hry w rfl
          · refine wpOp_load hb gb (hry w rfl) ⟨hSj, ?_⟩
            refine ⟨fun h0 => (by rw [show Region.ready .any ops (LP.setIfInBounds m true) = [] from h0] at hri2; cases hri2), fun m' hm' => ?_⟩
            have hm' : m' = i := by rw [show Region.ready .any ops ((setT [] LP).setIfInBounds m true) = [i] from p3] at hm'; simpa using hm'
            subst hm'
            have hcomm : (setT [] LP).setIfInBounds m true = LP.setIfInBounds m true := rfl
            refine wpOp_load (x := x) ha ga (w' := w) ?_ ?_
            · show (execOp (aP.put ob.dst y).eval oa).run P w = _
              rw [execOp_put oa (noSel_of hns ha) aP ob.dst y q3]
              exact hrx w rfl
            · show Stands R0 s0 w0 tf ((LP.setIfInBounds m true).setIfInBounds m' true) w ∧ wpAnyU P ops Q (Stands R0 s0 w0 tf) n ((LP.setIfInBounds m true).setIfInBounds m' true) ((aP.put ob.dst y).put oa.dst x) w
              rw [Array.setIfInBounds_comm _ _ (Ne.symm hij), ← Act.put_comm aP x y q2]
              exact ⟨hSij, rest⟩
        · cases h1
end
end Go.Proofs.Ytfoldiieclfbgaa
set_option linter.unusedVariables false
set_option linter.unusedSectionVars false
set_option linter.unusedSimpArgs false
namespace Go.Proofs.Ytfoldiieclfbgaa
open Go Go.RowKit
variable [Env] [Know]

theorem readyL_eq (m : Nat) (l : List Rec) : readyL m l = l.filter (readyR m) := by
  induction l with
  | nil => rfl
  | cons r l ih =>
    show (Bool.rec (readyL m l) (r :: readyL m l) (readyR m r) : List Rec) = _
    rw [List.filter_cons, ih]
    cases readyR m r <;> rfl
theorem without_eq (i : Nat) (l : List Rec) : without i l = l.filter (fun r => !Nat.beq r.i i) := by
  induction l with
  | nil => rfl
  | cons r l ih =>
    show (Bool.rec (r :: without i l) (without i l) (Nat.beq r.i i) : List Rec) = _
    rw [List.filter_cons, ih]
    cases Nat.beq r.i i <;> rfl
theorem firstR_some {t : Oper → Bool} {m : Nat} {all : List Rec} {r : Rec} : ∀ {l : List Rec}, firstR t m all l = some r → r ∈ l ∧ t r.o = true ∧ readyR m r = true ∧ freeR all r = true
  | q :: l, h => by
    have h' : (Bool.rec (firstR t m all l) (some q) (t q.o && (readyR m q && freeR all q)) : Option Rec) = some r := h
    cases hb : (t q.o && (readyR m q && freeR all q)) with
    | true =>
      rw [hb] at h'
      injection h' with h'
      subst h'
      simp only [Bool.and_eq_true] at hb
      exact ⟨List.mem_cons_self, hb.1, hb.2.1, hb.2.2⟩
    | false =>
      rw [hb] at h'
      obtain ⟨h1, h2⟩ := firstR_some h'
      exact ⟨List.mem_cons_of_mem _ h1, h2⟩
theorem readyR_iff (m : Nat) (r : Rec) : readyR m r = true ↔ ∀ j, r.deps.testBit j = true → m.testBit j = true := by
  unfold readyR
  constructor
  · intro h j hj
    have h := Nat.eq_of_beq_eq_true h
    rw [← h, Nat.testBit_and] at hj
    simp only [Bool.and_eq_true] at hj
    exact hj.2
  · intro h
    have : r.deps &&& m = r.deps := by
      apply Nat.eq_of_testBit_eq
      intro j
      rw [Nat.testBit_and]
      cases hj : r.deps.testBit j with
      | false => rfl
      | true => rw [h j hj]; rfl
    rw [this]
    exact Nat.beq_refl _
theorem readyR_mono {m i : Nat} {r : Rec} (h : readyR m r = true) : readyR (m ||| 2 ^ i) r = true := by
  rw [readyR_iff] at h ⊢
  intro j hj
  rw [testBit_or_pow, h j hj]; rfl
/-- m tells what is listed, l what is not. -/
structure Corr (ops : Array Oper) (m : Nat) (l : List Rec) (listed : Array Bool) : Prop where
  size : listed.size = ops.size
  bit : ∀ i, i < ops.size → listed.getD i true = m.testBit i
  top : ∀ i, m.testBit i = true → i < ops.size
  rest : l = (allR ops).filter (fun r => !m.testBit r.i)
section
variable {ops : Array Oper} {m : Nat} {l : List Rec} {listed : Array Bool}
theorem Corr.getF (h : Corr ops m l listed) (i : Nat) : listed.getD i false = m.testBit i := by
  by_cases hi : i < ops.size
  · have h1 := h.bit i hi
    have h2 : i < listed.size := by rw [h.size]; exact hi
    simp [Array.getD, h2] at h1 ⊢
    exact h1
  · have h2 : ¬ i < listed.size := by rw [h.size]; exact hi
    have h3 : m.testBit i = false := by
      cases hb : m.testBit i with
      | false => rfl
      | true => exact absurd (h.top i hb) hi
    rw [h3]
    simp [Array.getD, h2]
theorem Corr.mem (h : Corr ops m l listed) {r : Rec} (hr : r ∈ l) : r ∈ allR ops ∧ m.testBit r.i = false := by
  rw [h.rest] at hr
  have := List.mem_filter.1 hr
  exact ⟨this.1, by simpa using this.2⟩
theorem Corr.ready_iff (h : Corr ops m l listed) {r : Rec} (hr : r ∈ allR ops) : (!listed.getD r.i true && ((ops[r.i]?).map (·.after.all fun e => !Region.binds .any e || listed.getD e.on false)).getD false) = (!m.testBit r.i && readyR m r) := by
  obtain ⟨h1, h2, h3⟩ := allR_mem hr
  have hi : r.i < ops.size := (Array.getElem?_eq_some_iff.1 h1).1
  rw [h.bit _ hi, h1, Option.map_some, Option.getD_some]
  congr 1
  rw [Bool.eq_iff_iff, readyR_iff, h2]
  simp only [Array.all_eq_true_iff_forall_mem, Bool.or_eq_true, Bool.not_eq_true', depM_bit]
  constructor
  · rintro ha j ⟨e, he, hb, rfl⟩
    rcases ha e he with h | h'
    · rw [hb] at h; cases h
    · rw [h.getF] at h'; exact h'
  · intro ha e he
    cases hb : Region.binds .any e with
    | false => exact .inl rfl
    | true => exact .inr (by rw [h.getF]; exact ha _ ⟨e, he, hb, rfl⟩)
theorem Corr.ready (h : Corr ops m l listed) : Region.ready .any ops listed = (l.filter (readyR m)).map (·.i) := by
  unfold Region.ready
  rw [← allR_map, List.filter_map, h.rest, List.filter_filter]
  congr 1
  apply List.filter_congr
  intro r hr
  have := h.ready_iff hr
  simp only [Function.comp]
  rw [this, Bool.and_comm]
theorem Corr.set (h : Corr ops m l listed) {r : Rec} (hr : r ∈ l) : Corr ops (m ||| 2 ^ r.i) (without r.i l) (listed.setIfInBounds r.i true) := by
  obtain ⟨h1, h2⟩ := h.mem hr
  have hi : r.i < ops.size := (Array.getElem?_eq_some_iff.1 (allR_mem h1).1).1
  refine ⟨by simp [h.size], fun i hi' => ?_, fun i hb => ?_, ?_⟩
  · rw [testBit_or_pow]
    by_cases he : r.i = i
    · subst he
      have : r.i < listed.size := by rw [h.size]; exact hi
      simp [Array.getD, this]
    · rw [← h.bit i hi']
      simp [Array.getD_eq_getD_getElem?, Array.getElem?_setIfInBounds_ne he, he]
  · rw [testBit_or_pow] at hb
    simp only [Bool.or_eq_true, decide_eq_true_eq] at hb
    rcases hb with hb | hb
    · exact h.top i hb
    · omega
  · rw [without_eq, h.rest, List.filter_filter]
    apply List.filter_congr
    intro q hq
    rw [testBit_or_pow, Bool.not_or, Bool.and_comm]
    congr 1
    cases hb : Nat.beq q.i r.i with
    | true => have := Nat.eq_of_beq_eq_true hb; simp [this]
    | false =>
      have := Nat.ne_of_beq_eq_false hb
      simp
      exact fun e => this e.symm
theorem apartR_ok {x y : Rec} (hx : x.looks = lookM ops x.o) (hy : y.looks = lookM ops y.o) (h : apartR x y = true) : x.o.apart ops y.o = true := by
  unfold apartR at h
  simp only [Bool.and_eq_true, Bool.not_eq_true'] at h
  obtain ⟨h1, h2, h3⟩ := h
  have nb : ∀ {d : Option Tmp} {o : Oper} {mm : Nat}, mm = lookM ops o → hitM d mm = false → ∀ t, d = some t → (o.looksAt ops).contains t = false := by
    intro d o mm e hh t ht
    subst e ht
    simp only [hitM] at hh
    cases hc : (o.looksAt ops).contains t with
    | false => rfl
    | true =>
      rw [(lookM_bit ops o t).2 (by simpa using hc)] at hh
      cases hh
  unfold Oper.apart
  have e1 : ∀ t, x.o.dst = some t → ((y.o.looksAt ops).contains t = false ∧ y.o.dst ≠ some t) := by
    intro t ht
    refine ⟨nb hy h1 t ht, fun e => ?_⟩
    rw [ht, e] at h2
    simp only [sameD] at h2
    exact absurd rfl (Nat.ne_of_beq_eq_false h2)
  have e2 := nb hx h3
  cases hxd : x.o.dst with
  | none =>
    cases hyd : y.o.dst with
    | none => rfl
    | some t =>
      have h5 := e2 t hyd
      show (true && !(x.o.looksAt ops).contains t) = true
      rw [h5]; rfl
  | some t =>
    obtain ⟨a1, a2⟩ := e1 t hxd
    cases hyd : y.o.dst with
    | none =>
      show ((!(y.o.looksAt ops).contains t && (none != some t)) && true) = true
      rw [a1]; rfl
    | some u =>
      have hut : (some u != some t) = true := by
        have : ¬ u = t := fun e => a2 (by rw [hyd, e])
        simp [this]
      have h5 := e2 u hyd
      show ((!(y.o.looksAt ops).contains t && (some u != some t)) && !(x.o.looksAt ops).contains u) = true
      rw [a1, h5, hut]; rfl
theorem Corr.free (h : Corr ops m l listed) {r : Rec} (hr : r ∈ l) (hf : freeR l r = true) : Region.free .any ops listed r.i = true := by
  obtain ⟨h1, _⟩ := h.mem hr
  obtain ⟨g1, g2, g3⟩ := allR_mem h1
  unfold freeR at hf
  rw [allL_eq, List.all_eq_true] at hf
  unfold Region.free
  simp only [g1, List.all_eq_true, List.mem_range]
  intro j hj
  obtain ⟨q, hq, rfl⟩ := allR_ex hj
  obtain ⟨k1, k2, k3⟩ := allR_mem hq
  rw [k1]
  by_cases hij : q.i = r.i
  · simp [hij]
  rw [h.bit _ hj]
  cases hb : m.testBit q.i with
  | true => simp
  | false =>
    have hql : q ∈ l := by rw [h.rest]; exact List.mem_filter.2 ⟨hq, by simp [hb]⟩
    have := hf q hql
    simp only [Bool.or_eq_true] at this
    rcases this with h' | h' | h'
    · exact absurd (Nat.eq_of_beq_eq_true h') hij
    · rw [k2, depM_bit] at h'
      obtain ⟨e, he, hb2, hon⟩ := h'
      simp only [Bool.or_eq_true]
      right; left
      rw [Array.any_eq_true']
      exact ⟨e, he, by simp [hb2, hon]⟩
    · simp only [Bool.or_eq_true]
      right; right
      exact apartR_ok g3 k3 h'
theorem Corr.mem_ready (h : Corr ops m l listed) {r : Rec} (hr : r ∈ l) (hf : readyR m r = true) : r.i ∈ Region.ready .any ops listed := by
  rw [h.ready]
  exact List.mem_map.2 ⟨r, List.mem_filter.2 ⟨hr, hf⟩, rfl⟩
theorem plain_eq (fs : Nat) (l : List Rec) : plain fs l = l.filter (fun r => !fs.testBit r.i) := by
  induction l with
  | nil => rfl
  | cons r l ih =>
    show (Bool.rec (r :: plain fs l) (plain fs l) (fs.testBit r.i) : List Rec) = _
    rw [List.filter_cons, ih]
    cases fs.testBit r.i <;> rfl
theorem pendM_bit {fs i x : Nat} {q : Rec} : ∀ {l : List Rec}, q ∈ l → q.i = x → fs.testBit x = true → x ≠ i → (pendM fs i l).testBit x = true
  | r :: l, hq, hx, hf, hn => by
    show (Bool.rec (pendM fs i l) (pendM fs i l ||| 2 ^ r.i) (fs.testBit r.i && !Nat.beq r.i i) : Nat).testBit x = true
    rcases List.mem_cons.1 hq with rfl | hq
    · have hb : (fs.testBit q.i && !Nat.beq q.i i) = true := by
        rw [hx, hf]
        cases hc : Nat.beq x i with
        | false => rfl
        | true => exact absurd (Nat.eq_of_beq_eq_true hc) hn
      rw [hb]
      show (pendM fs i l ||| 2 ^ q.i).testBit x = true
      rw [testBit_or_pow, hx]; simp
    · have ih := pendM_bit (l := l) hq hx hf hn
      cases (fs.testBit r.i && !Nat.beq r.i i) with
      | false => exact ih
      | true =>
        show (pendM fs i l ||| 2 ^ r.i).testBit x = true
        rw [testBit_or_pow, ih]; rfl
theorem Corr.un_mem (h : Corr ops m l listed) {i : Nat} (hi : listed.getD i true = false) : ∃ r ∈ l, r.i = i := by
  have hs : i < ops.size := by
    rw [← h.size]
    rcases Nat.lt_or_ge i listed.size with h' | h'
    · exact h'
    · simp [Array.getElem?_eq_none h'] at hi
  obtain ⟨r, hr, e⟩ := allR_ex hs
  refine ⟨r, ?_, e⟩
  rw [h.rest]
  refine List.mem_filter.2 ⟨hr, ?_⟩
  rw [e, ← h.bit i hs, hi]; rfl
theorem Corr.wt (h : Corr ops m l listed) {fs r : Nat} (hw : wtB fs (allR ops) l r = true) : Wt ops (fun i => fs.testBit i) listed r := by
  intro i hf hne hun j oj hoj hjun ⟨e, he, hb, hon⟩
  have hf : fs.testBit i = true := hf
  unfold wtB at hw
  rw [Bool.or_eq_true, allL_eq, List.all_eq_true] at hw
  rcases hw with hw | hw
  · have := Nat.eq_of_beq_eq_true hw
    subst this
    simp at hf
  · obtain ⟨ri, hri, hrie⟩ := h.un_mem hun
    obtain ⟨q, hq, hqe⟩ := h.un_mem hjun
    obtain ⟨g1, g2, _⟩ := allR_mem (h.mem hq).1
    subst hqe
    rw [hoj] at g1
    injection g1 with g1
    have hd : q.deps.testBit i = true := by
      rw [g2, depM_bit, ← g1]
      exact ⟨e, he, hb, hon⟩
    have h2 := hw q hq
    rw [Bool.or_eq_true] at h2
    rcases h2 with h2 | h2
    · exfalso
      have := Nat.eq_of_beq_eq_true h2
      have h3 : (q.deps &&& pendM fs r l).testBit i = true := by
        rw [Nat.testBit_and, hd, pendM_bit hri hrie hf hne]; rfl
      rw [this] at h3
      simp at h3
    · exact waitsR_ok (by rw [hoj, g1]) g2 h2
theorem planGo_ok {fs : Nat} : ∀ (n : Nat) {m : Nat} {l : List Rec} {listed : Array Bool} {pl : List Stp}, Corr ops m l listed → planGo fs (allR ops) n m l = some pl → PlanOk ops (fun i => fs.testBit i) pl listed
  | n, m, l, listed, pl, hc, h => by
    have hrdy : ∀ {j}, j ∈ Region.ready .any ops listed → ∃ r ∈ l.filter (readyR m), r.i = j := fun {j} hj => by
      rw [hc.ready] at hj
      obtain ⟨r, h1, h2⟩ := List.mem_map.1 hj
      exact ⟨r, h1, h2⟩
    cases n with
    | zero =>
      unfold planGo at h
      split at h
      · rename_i hl
        injection h with h
        subst h
        rw [readyL_eq] at hl
        show Region.ready .any ops listed = []
        rw [hc.ready, hl]; rfl
      · cases h
    | succ n =>
      unfold planGo at h
      split at h
      · rename_i r hr
        obtain ⟨a1, a2, a3, a4⟩ := firstR_some hr
        split at h
        · rename_i p hf hp
          injection h with h
          subst h
          exact ⟨hf, hc.mem_ready a1 a3, hc.free a1 a4, trivial, planGo_ok n (hc.set a1) hp⟩
        · cases h
      · split at h
        · rename_i hpl
          rw [plain_eq, readyL_eq] at hpl
          have hallf : ∀ r ∈ l.filter (readyR m), fs.testBit r.i = true := fun r hr => by
            cases hb : fs.testBit r.i with
            | true => rfl
            | false =>
              have : r ∈ (l.filter (readyR m)).filter (fun r => !fs.testBit r.i) := List.mem_filter.2 ⟨hr, by rw [hb]; rfl⟩
              rw [hpl] at this; cases this
          split at h
          · rename_i hl
            injection h with h
            subst h
            rw [readyL_eq] at hl
            show Region.ready .any ops listed = []
            rw [hc.ready, hl]; rfl
          · rename_i r more hl
            rw [readyL_eq] at hl
            have hrl : r ∈ l.filter (readyR m) := by rw [hl]; exact List.mem_cons_self
            have hrl' := List.mem_filter.1 hrl
            split at h
            · rename_i p hw hp
              injection h with h
              subst h
              refine ⟨hallf r hrl, hc.mem_ready hrl'.1 hrl'.2, fun j hj => ?_, hc.wt hw, planGo_ok n (hc.set hrl'.1) hp⟩
              obtain ⟨q, hq, rfl⟩ := hrdy hj
              exact hallf q hq
            · cases h
        · rename_i r hpl
          rw [plain_eq, readyL_eq] at hpl
          have hrl : r ∈ (l.filter (readyR m)).filter (fun r => !fs.testBit r.i) := by rw [hpl]; exact List.mem_singleton_self r
          have hrl1 := List.mem_filter.1 hrl
          have hrl' := List.mem_filter.1 hrl1.1
          have hrf : fs.testBit r.i = false := by simpa using hrl1.2
          split at h
          · rename_i hw
            split at h
            · rename_i p hp
              injection h with h
              subst h
              refine ⟨hrf, hc.mem_ready hrl'.1 hrl'.2, fun j hj => ?_, hc.wt hw, planGo_ok n (hc.set hrl'.1) hp⟩
              obtain ⟨q, hq, rfl⟩ := hrdy hj
              cases hb : fs.testBit q.i with
              | true => exact .inr hb
              | false =>
                have : q ∈ (l.filter (readyR m)).filter (fun r => !fs.testBit r.i) := List.mem_filter.2 ⟨hq, by rw [hb]; rfl⟩
                rw [hpl] at this
                rw [List.mem_singleton.1 this]; exact .inl rfl
            · cases h
          · split at h
            · cases h
            · rename_i r2 hr2
              obtain ⟨a1, a2, a3, a4⟩ := firstR_some hr2
              split at h
              · rename_i p hf hp
                injection h with h
                subst h
                exact ⟨hf, hc.mem_ready a1 a3, hc.free a1 a4, trivial, planGo_ok n (hc.set a1) hp⟩
              · cases h
        · rename_i a b more hpl
          split at h
          · cases h
          · rename_i r hr
            obtain ⟨a1, a2, a3, a4⟩ := firstR_some hr
            split at h
            · rename_i n hpr
              rw [Bool.and_eq_true] at hpr
              obtain ⟨hfs, hpr⟩ := hpr
              have hfs := Nat.eq_of_beq_eq_true hfs
              subst hfs
              have hl : l.filter (readyR m) = [a, b] := by
                rw [plain_eq, readyL_eq] at hpl
                rw [← hpl]
                exact (List.filter_eq_self.2 (fun r _ => by simp)).symm
              have hal : a ∈ l.filter (readyR m) := by rw [hl]; simp
              have hbl : b ∈ l.filter (readyR m) := by rw [hl]; simp
              have ha := List.mem_filter.1 hal
              have hb := List.mem_filter.1 hbl
              unfold pairR at hpr
              simp only [Bool.and_eq_true, allL_eq, List.all_eq_true, Bool.or_eq_true, Bool.not_eq_true'] at hpr
              obtain ⟨⟨⟨⟨⟨p1, p2⟩, p3⟩, p4⟩, p5⟩, p6⟩ := hpr
              have hnd : ((l.filter (readyR m)).map (·.i)).Nodup := by
                rw [hc.rest, List.filter_filter]
                refine List.Nodup.sublist (List.Sublist.map _ List.filter_sublist) ?_
                rw [allR_map]
                exact List.nodup_range
              rw [hl] at hnd
              have hab : a.i ≠ b.i := by simpa using hnd
              have hba : Nat.beq b.i a.i = false := by
                cases hq : Nat.beq b.i a.i with
                | false => rfl
                | true => exact absurd (Nat.eq_of_beq_eq_true hq).symm hab
              have hba' : Nat.beq a.i b.i = false := by
                cases hq : Nat.beq a.i b.i with
                | false => rfl
                | true => exact absurd (Nat.eq_of_beq_eq_true hq) hab
              have haA := (hc.mem ha.1).1
              have hbA := (hc.mem hb.1).1
              have only : ∀ (x y : Rec), x ∈ l → y ∈ l → readyR m y = true → (∀ q ∈ l, readyR (m ||| 2 ^ x.i) q = true → q.i = x.i ∨ q.i = y.i) → (without x.i l).filter (readyR (m ||| 2 ^ x.i)) = (l.filter (readyR m)).filter (fun r => !Nat.beq r.i x.i) := by
                intro x y hx hy hry hq
                rw [without_eq, List.filter_filter, List.filter_filter]
                apply List.filter_congr
                intro q hql
                rw [Bool.and_comm]
                cases hqx : Nat.beq q.i x.i with
                | true => simp
                | false =>
                  simp only [Bool.not_false, Bool.true_and]
                  rw [Bool.eq_iff_iff]
                  constructor
                  · intro hqr
                    rcases hq q hql hqr with e | e
                    · exact absurd e (Nat.ne_of_beq_eq_false hqx)
                    · have : q = y := allR_inj (hc.mem hql).1 (hc.mem hy).1 e
                      rw [this]; exact hry
                  · exact readyR_mono
              have o1 := only a b ha.1 hb.1 hb.2 (fun q hql hqr => by
                rcases p6 q hql with e | e | ⟨e, _⟩
                · exact .inl (Nat.eq_of_beq_eq_true e)
                · exact .inr (Nat.eq_of_beq_eq_true e)
                · rw [hqr] at e; cases e)
              have o2 := only b a hb.1 ha.1 ha.2 (fun q hql hqr => by
                rcases p6 q hql with e | e | ⟨_, e⟩
                · exact .inr (Nat.eq_of_beq_eq_true e)
                · exact .inl (Nat.eq_of_beq_eq_true e)
                · rw [hqr] at e; cases e)
              rw [hl] at o1 o2
              simp only [List.filter_cons, Nat.beq_refl, hba, hba', Bool.not_true, Bool.not_false, List.filter_nil, if_true] at o1 o2
              simp only [Bool.false_eq_true, if_false] at o1 o2
              have hbw : b ∈ without a.i l := by
                rw [without_eq]; exact List.mem_filter.2 ⟨hb.1, by rw [hba]; rfl⟩
              split at h
              · rename_i p hp
                injection h with h
                subst h
                have q1 := planGo_ok n ((hc.set ha.1).set hbw) hp
                exact ⟨fun x => by simp, by rw [hc.ready, hl]; rfl, by rw [(hc.set ha.1).ready, o1]; rfl, by rw [(hc.set hb.1).ready, o2]; rfl, ⟨a.o, b.o, (allR_mem haA).1, (allR_mem hbA).1, by simpa using p3, by simpa using p4, apartR_ok (allR_mem haA).2.2 (allR_mem hbA).2.2 p5, hab⟩, q1⟩
              · cases h
            · split at h
              · rename_i p hf hp
                injection h with h
                subst h
                exact ⟨hf, hc.mem_ready a1 a3, hc.free a1 a4, trivial, planGo_ok _ (hc.set a1) hp⟩
              · cases h
theorem floM_bit {all : List Rec} {x : Nat} : ∀ {l : List Rec}, (floM all l).testBit x = true → ∃ r ∈ l, r.i = x ∧ floR all r = true
  | [], h => by
    have h' : (0 : Nat).testBit x = true := h
    simp at h'
  | r :: l, h => by
    have h' : (Bool.rec (floM all l) (floM all l ||| 2 ^ r.i) (floR all r) : Nat).testBit x = true := h
    cases hb : floR all r with
    | false =>
      rw [hb] at h'
      obtain ⟨q, hq, h1⟩ := floM_bit h'
      exact ⟨q, List.mem_cons_of_mem _ hq, h1⟩
    | true =>
      rw [hb] at h'
      have h' : (floM all l ||| 2 ^ r.i).testBit x = true := h'
      rw [testBit_or_pow, Bool.or_eq_true, decide_eq_true_iff] at h'
      rcases h' with h' | h'
      · obtain ⟨q, hq, h1⟩ := floM_bit h'
        exact ⟨q, List.mem_cons_of_mem _ hq, h1⟩
      · exact ⟨r, List.mem_cons_self, h', hb⟩
theorem flo_ok {P : Program} (hz : allL (zeroB P) ops.toList = true) : FloOk P ops (fun i => (floM (allR ops) (allR ops)).testBit i) := by
  intro i hi
  obtain ⟨r, hr, rfl, hf⟩ := floM_bit hi
  obtain ⟨g1, g2, g3⟩ := allR_mem hr
  unfold floR at hf
  simp only [Bool.and_eq_true] at hf
  obtain ⟨f1, f2, f3⟩ := hf
  have f2 := Nat.eq_of_beq_eq_true f2
  have hzr : zeroB P r.o = true := by
    rw [allL_eq, List.all_eq_true] at hz
    exact hz r.o (by simpa using Array.mem_of_getElem? g1)
  obtain ⟨ty, d, h1, h2, h3⟩ : ∃ ty d, r.o.op = .alloc ty ∧ r.o.dst = some d ∧ r.o.guard = none := by
    unfold isAlloc at f1
    split at f1
    · rename_i ty d e1 e2 e3
      exact ⟨ty, d, e1, e3, e2⟩
    · cases f1
  unfold zeroB at hzr
  rw [h1] at hzr
  simp only at hzr
  split at hzr
  · rename_i inf hinf
    obtain ⟨z, hzz⟩ := Option.isSome_iff_exists.1 hzr
    refine ⟨r.o, ty, d, inf, z, g1, h1, h2, h3, hinf, hzz, fun e he => ?_, fun j oj hj hne => ?_⟩
    · cases hb : Region.binds .any e with
      | false => rfl
      | true =>
        have := (depM_bit r.o e.on).2 ⟨e, he, hb, rfl⟩
        rw [← g2, f2] at this
        simp at this
    · unfold freeR at f3
      rw [allL_eq, List.all_eq_true] at f3
      have hjs : j < ops.size := (Array.getElem?_eq_some_iff.1 hj).1
      obtain ⟨q, hq, rfl⟩ := allR_ex hjs
      obtain ⟨k1, k2, k3⟩ := allR_mem hq
      rw [hj] at k1
      injection k1 with k1
      subst k1
      have := f3 q hq
      simp only [Bool.or_eq_true] at this
      rcases this with h' | h' | h'
      · exact absurd (Nat.eq_of_beq_eq_true h') hne
      · rw [k2, depM_bit] at h'
        exact .inl h'
      · exact .inr (apartR_ok g3 k3 h')
  · cases hzr
theorem plan_ok {pl : List Stp} {fs : Nat} (h : plan ops = some (fs, pl)) : Region.noSelect ops = true ∧ PlanOk ops (fun i => fs.testBit i) pl (Array.replicate ops.size false) ∧ (fs = 0 ∨ fs = floM (allR ops) (allR ops)) := by
  have h0 : Corr ops 0 (allR ops) (Array.replicate ops.size false) := ⟨by simp, fun i hi => by simp [Array.getD, hi], fun i hi => by simp at hi, by
    rw [List.filter_eq_self.2]
    intro r _
    simp⟩
  unfold plan at h
  split at h
  · rename_i hs
    unfold planW at h
    split at h
    · rename_i p hp
      injection h with h
      injection h with h1 h2
      subst h1 h2
      exact ⟨hs, planGo_ok _ h0 hp, .inl rfl⟩
    · split at h
      · rename_i p hp
        injection h with h
        injection h with h1 h2
        subst h1 h2
        exact ⟨hs, planGo_ok _ h0 hp, .inr rfl⟩
      · cases h
  · cases h
end
end Go.Proofs.Ytfoldiieclfbgaa
set_option linter.unusedVariables false
set_option linter.unusedSectionVars false
set_option linter.unusedSimpArgs false
namespace Go.Proofs.Ytfoldiieclfbgaa
open Go Go.RowKit

section
variable [Env] [Know]
variable {P : Program} {R : Rho}
theorem Inv.drawn {s : AS} {w : World} {fl b : Nat} (h : Inv R s w fl b) (n : Nat) : Inv R s { w with drawn := n } fl b := h.same rfl
theorem Went.drawn {R' : Rho} {s s' : AS} {w w' : World} {fl b n : Nat} (h : Went R R' s s' { w with drawn := n } w' fl b) : Went R R' s s' w w' fl b :=
  ⟨h.ext, h.old, h.num, h.keep, h.inv, ⟨h.below.os, h.below.tape, h.below.output, h.below.size, h.below.block⟩, h.fresh, h.more, h.wrote, h.other⟩
theorem evalRegion_ok (hK : KnowOk P) {call : CallE} (hcall : CallOk P call) (hm : P.follows .mixedOrders = true) {floor base : Nat} {id : Nat} {ops : Array Oper} {draw : Bool} {f f' : Fr} {s s' : AS} (h : evalRegion P call floor ops draw f s = some (f', s'))
    {w : World} {a : Act} (hI : Inv R s w floor base) (hf : FRel R f a.tmps) {Q : Exit → Act → World → Prop} (hQ : ∀ R' a' w', Went R R' s s' w w' floor base → FRel R' f' a'.tmps → a'.defers = a.defers → Q .normal a' w') :
    (Code.region id ops draw).wp P Q a w := by
  unfold evalRegion at h
  split at h
  · exact wp_region_list (evalSeq_ok hK hcall ops.toList h hI hf hQ)
  · split at h
    · rename_i fs pl hpl
      split at h
      · rename_i hz
        split at h
        · rename_i f1 s1 tf he
          injection h with h
          injection h with h1 h2
          subst h1 h2
          obtain ⟨hns, hp, hfs⟩ := plan_ok hpl
          have hfl : FloOk P ops (fun i => fs.testBit i) := by
            rcases hfs with rfl | rfl
            · intro i hi; simp at hi
            · rw [Bool.or_eq_true] at hz
              rcases hz with hz | hz
              · rw [Nat.eq_of_beq_eq_true hz]; intro i hi; simp at hi
              · exact flo_ok hz
          let Q0 : Exit → Act → World → Prop := fun e a' w' => e = .normal ∧ Q .normal a' w'
          refine wp_mono (Q := Q0) ?_ (fun e a' w' hq => by obtain ⟨rfl, hq⟩ := hq; exact hq)
          refine wp_region_any hm (wpAny_of_U (S := Stands R s { w with drawn := w.drawn + 1 } tf) _ ?_)
          have hI1 := hI.drawn (w.drawn + 1)
          have hdown : Down ops (Array.replicate ops.size false) := fun j o ho hj => by
            have hjs : j < ops.size := (Array.getElem?_eq_some_iff.1 ho).1
            simp [hjs] at hj
          exact evalPlan_ok (Q := Q0) hK hcall hns (fun c a w h => by cases h.1) hfl hI1 (a0 := a) (fun R' a' w' hg hf2 hd => ⟨rfl, hQ R' a' w' hg.drawn hf2 hd⟩) _ pl (T := []) (Nat.le_refl _) hp he
            hdown (by show (Array.replicate ops.size false).toList.count false ≤ ops.size; rw [Array.toList_replicate, List.count_replicate]; simp) (fun t ht => by cases ht) .nil (Went.refl hI1) hf rfl (fun _ _ _ _ => rfl) (fun _ _ _ _ _ _ _ => rfl) (fun p hp => by cases hp)
        · cases h
      · cases h
    · cases h
def AX.out : AX → Exit
  | .normal => .normal
  | .exit id => .exit id
  | .goto l => .goto l
  | .ret => .ret
def FinE (R : Rho) (s : AS) (w : World) (a : Act) (floor base : Nat) (x : AX) (f' : Fr) (s' : AS) (e : Exit) (a' : Act) (w' : World) : Prop :=
  e = x.out ∧ ∃ R', Went R R' s s' w w' floor base ∧ FRel R' f' a'.tmps ∧ a'.defers = a.defers
def CodeOk (P : Program) (code : CodeE) : Prop := ∀ {floor : Nat} {c : Code} {f : Fr} {s : AS} {x : AX} {f' : Fr} {s' : AS}, code floor c f s = some (x, f', s') →
  ∀ {R : Rho} {w : World} {base : Nat} {a : Act}, Inv R s w floor base → FRel R f a.tmps → c.wp P (FinE R s w a floor base x f' s') a w
def LoopOk (P : Program) (code : CodeE) : Prop := ∀ {floor : Nat} {c : Code} {f : Fr} {s : AS} {x : AX} {f' : Fr} {s' : AS}, code floor c f s = some (x, f', s') →
  ∀ {R : Rho} {w : World} {base : Nat} {a : Act}, Inv R s w floor base → FRel R f a.tmps → ∀ (b : Frame) (k : List Item) (cs : List Frame),
    ∃ e a' w', FinE R s w a floor base x f' s' e a' w' ∧ Arrives P (lone (b.at a (.code c :: .inLoop c :: k)) cs w) b k cs e a' w'
def ScopeOk (P : Program) (code : Nat → Code → Code → Fr → AS → Option (AX × Fr × AS)) : Prop := ∀ {floor : Nat} {c cur : Code} {f : Fr} {s : AS} {x : AX} {f' : Fr} {s' : AS}, code floor c cur f s = some (x, f', s') →
  ∀ {R : Rho} {w : World} {base : Nat} {a : Act}, Inv R s w floor base → FRel R f a.tmps → ∀ (b : Frame) (k : List Item) (cs : List Frame),
    ∃ e a' w', FinE R s w a floor base x f' s' e a' w' ∧ Arrives P (lone (b.at a (.code cur :: .inScope c :: k)) cs w) b k cs e a' w'
structure EvOk (P : Program) (E : Ev) : Prop where
  code : CodeOk P E.code
  loop : LoopOk P E.loop
  scope : ScopeOk P E.scope
  call : CallOk P E.call
theorem FinE.trans {R R1 : Rho} {s s1 s2 : AS} {w w1 : World} {a a1 : Act} {fl b : Nat} {x : AX} {f2 : Fr} {e : Exit} {a' : Act} {w' : World} (h : Went R R1 s s1 w w1 fl b) (hd : a1.defers = a.defers) (h2 : FinE R1 s1 w1 a1 fl b x f2 s2 e a' w') :
    FinE R s w a fl b x f2 s2 e a' w' :=
  let ⟨he, R', hg, hf, hd2⟩ := h2
  ⟨he, R', h.trans hg, hf, hd2.trans hd⟩
theorem codeStep_ok (hK : KnowOk P) {E : Ev} (hE : EvOk P E) (hm : P.follows .mixedOrders = true) : CodeOk P (codeStep P E) := by
  intro floor c f s x f' s' h R w base a hI hf
  unfold codeStep at h
  split at h
  · injection h with h; injection h with h1 h; injection h with h2 h3; subst h1 h2 h3
    exact wp_skip ⟨rfl, R, Went.refl hI, hf, rfl⟩
  · injection h with h; injection h with h1 h; injection h with h2 h3; subst h1 h2 h3
    exact wp_label ⟨rfl, R, Went.refl hI, hf, rfl⟩
  · rename_i id ops draw
    unfold codeRegion at h
    split at h
    · rename_i f1 s1 he
      rw [forceF_eq] at h
      injection h with h; injection h with h1 h; injection h with h2 h3; subst h1 h2 h3
      exact evalRegion_ok hK hE.call hm he hI hf fun R' a' w' hg hf2 hd => ⟨rfl, R', hg, hf2, hd⟩
    · cases h
  · rename_i p q
    unfold codeSeq at h
    refine wp_seq ?_
    cases he : E.code floor p f s with
    | none => rw [he] at h; cases h
    | some r =>
      obtain ⟨x1, f1, s1⟩ := r
      rw [he] at h
      refine wp_mono (hE.code he hI hf) fun e a1 w1 hq => ?_
      obtain ⟨hx, R1, hg, hf1, hd⟩ := hq
      subst hx
      cases x1 with
      | normal => exact wp_mono (hE.code h hg.inv hf1) fun e a2 w2 hq2 => FinE.trans hg hd hq2
      | exit id => injection h with h; injection h with h1 h; injection h with h2 h3; subst h1 h2 h3; exact ⟨rfl, R1, hg, hf1, hd⟩
      | goto l => injection h with h; injection h with h1 h; injection h with h2 h3; subst h1 h2 h3; exact ⟨rfl, R1, hg, hf1, hd⟩
      | ret => injection h with h; injection h with h1 h; injection h with h2 h3; subst h1 h2 h3; exact ⟨rfl, R1, hg, hf1, hd⟩
  · rename_i o p q
    unfold codeCond at h
    have hr := opnd_ok hf o
    split at h
    · rename_i e; rw [e] at hr; exact wp_cond_true (lit_inv hr) (hE.code h hI hf)
    · rename_i e; rw [e] at hr; exact wp_cond_false (lit_inv hr) (hE.code h hI hf)
    · cases h
  · rename_i id p
    unfold codeBlock at h
    refine wp_block ?_
    cases he : E.code floor p f s with
    | none => rw [he] at h; cases h
    | some r =>
      obtain ⟨x1, f1, s1⟩ := r
      rw [he] at h
      refine wp_mono (hE.code he hI hf) fun e a1 w1 hq => ?_
      obtain ⟨hx, R1, hg, hf1, hd⟩ := hq
      subst hx
      cases x1 with
      | exit j =>
        simp only at h
        show (if j = id then _ else _)
        split at h
        · rename_i hb
          have hb := Nat.eq_of_beq_eq_true hb
          rw [if_pos hb]
          injection h with h; injection h with h1 h; injection h with h2 h3; subst h1 h2 h3
          exact ⟨rfl, R1, hg, hf1, hd⟩
        · rename_i hb
          have hb := Nat.ne_of_beq_eq_false hb
          rw [if_neg hb]
          injection h with h; injection h with h1 h; injection h with h2 h3; subst h1 h2 h3
          exact ⟨rfl, R1, hg, hf1, hd⟩
      | normal => injection h with h; injection h with h1 h; injection h with h2 h3; subst h1 h2 h3; exact ⟨rfl, R1, hg, hf1, hd⟩
      | goto l => injection h with h; injection h with h1 h; injection h with h2 h3; subst h1 h2 h3; exact ⟨rfl, R1, hg, hf1, hd⟩
      | ret => injection h with h; injection h with h1 h; injection h with h2 h3; subst h1 h2 h3; exact ⟨rfl, R1, hg, hf1, hd⟩
  · rename_i p
    intro b k cs
    obtain ⟨e, a', w', hq, harr⟩ := hE.loop h hI hf b k cs
    exact ⟨e, a', w', hq, .of_steps (.one step_loop) harr⟩
  · rename_i p
    intro b k cs
    obtain ⟨e, a', w', hq, harr⟩ := hE.scope h hI hf b k cs
    exact ⟨e, a', w', hq, .of_steps (.one step_scope) harr⟩
  · injection h with h; injection h with h1 h; injection h with h2 h3; subst h1 h2 h3
    exact wp_exit ⟨rfl, R, Went.refl hI, hf, rfl⟩
  · injection h with h; injection h with h1 h; injection h with h2 h3; subst h1 h2 h3
    exact wp_goto ⟨rfl, R, Went.refl hI, hf, rfl⟩
  · injection h with h; injection h with h1 h; injection h with h2 h3; subst h1 h2 h3
    exact wp_ret ⟨rfl, R, Went.refl hI, hf, rfl⟩
  · cases h
theorem loopStep_ok {E : Ev} (hE : EvOk P E) : LoopOk P (loopStep E) := by
  intro floor c f s x f' s' h R w base a hI hf b k cs
  unfold loopStep at h
  cases he : E.code floor c f s with
  | none => rw [he] at h; cases h
  | some r =>
    obtain ⟨x1, f1, s1⟩ := r
    rw [he] at h
    obtain ⟨e, a1, w1, hq, harr⟩ := hE.code he hI hf b (.inLoop c :: k) cs
    obtain ⟨hx, R1, hg, hf1, hd⟩ := hq
    subst hx
    cases x1 with
    | normal =>
      obtain ⟨e2, a2, w2, hq2, harr2⟩ := hE.loop h hg.inv hf1 b k cs
      exact ⟨e2, a2, w2, FinE.trans hg hd hq2, .of_steps (Steps.trans harr (.one step_inLoop)) harr2⟩
    | exit id =>
      injection h with h; injection h with h1 h; injection h with h2 h3; subst h1 h2 h3
      exact ⟨_, a1, w1, ⟨rfl, R1, hg, hf1, hd⟩, .pass (x := .inLoop c) rfl (fun _ _ => .inl (by simp [AX.out])) harr⟩
    | goto l =>
      injection h with h; injection h with h1 h; injection h with h2 h3; subst h1 h2 h3
      exact ⟨_, a1, w1, ⟨rfl, R1, hg, hf1, hd⟩, .pass (x := .inLoop c) rfl (fun _ _ => .inl (by simp [AX.out])) harr⟩
    | ret =>
      injection h with h; injection h with h1 h; injection h with h2 h3; subst h1 h2 h3
      exact ⟨_, a1, w1, ⟨rfl, R1, hg, hf1, hd⟩, .pass (x := .inLoop c) rfl (fun _ _ => .inl (by simp [AX.out])) harr⟩
theorem scopeStep_ok {E : Ev} (hE : EvOk P E) : ScopeOk P (scopeStep E) := by
  intro floor c cur f s x f' s' h R w base a hI hf b k cs
  unfold scopeStep at h
  cases he : E.code floor cur f s with
  | none => rw [he] at h; cases h
  | some r =>
    obtain ⟨x1, f1, s1⟩ := r
    rw [he] at h
    obtain ⟨e, a1, w1, hq, harr⟩ := hE.code he hI hf b (.inScope c :: k) cs
    obtain ⟨hx, R1, hg, hf1, hd⟩ := hq
    subst hx
    cases x1 with
    | normal =>
      injection h with h; injection h with h1 h; injection h with h2 h3; subst h1 h2 h3
      exact ⟨_, a1, w1, ⟨rfl, R1, hg, hf1, hd⟩, Steps.trans harr (.one step_inScope)⟩
    | exit id =>
      injection h with h; injection h with h1 h; injection h with h2 h3; subst h1 h2 h3
      exact ⟨_, a1, w1, ⟨rfl, R1, hg, hf1, hd⟩, fun k' hk => harr k' (by simp [exitTo, hk])⟩
    | goto l =>
      simp only at h
      cases hl : findLabel c l with
      | some rest =>
        rw [hl] at h
        have hgo : gotoIn l (.inScope c :: k) = some (.code rest :: .inScope c :: k) := by simp [gotoIn, hl]
        obtain ⟨e2, a2, w2, hq2, harr2⟩ := hE.scope h hg.inv hf1 b k cs
        exact ⟨e2, a2, w2, FinE.trans hg hd hq2, .of_steps (harr _ hgo) harr2⟩
      | none =>
        rw [hl] at h
        injection h with h; injection h with h1 h; injection h with h2 h3; subst h1 h2 h3
        exact ⟨_, a1, w1, ⟨rfl, R1, hg, hf1, hd⟩, fun k' hk => harr k' (by simp [gotoIn, hl, hk])⟩
    | ret =>
      injection h with h; injection h with h1 h; injection h with h2 h3; subst h1 h2 h3
      exact ⟨_, a1, w1, ⟨rfl, R1, hg, hf1, hd⟩, harr⟩
def resF (tmps : Array Value) : ResultVar → Sem Value
  | .tmp t => pure (tmps.getD t undef)
  | .cell a t => do loadVar t (← asAddr (tmps.getD a undef))
theorem results_eq (fn : Func) (tmps : Array Value) : results fn tmps = (do let vs ← fn.results.mapM (resF tmps); pure (if h : vs.size = 1 then vs[0] else .tuple vs)) := by
  have : (fun (r : ResultVar) => (match r with
      | .tmp t => pure (tmps.getD t undef)
      | .cell a t => do loadVar t (← asAddr (tmps.getD a undef)) : Sem Value)) = resF tmps := funext fun r => by cases r <;> rfl
  unfold results
  rw [← this]
  rfl
theorem resA_ok {s : AS} {w : World} {fl b : Nat} (hI : Inv R s w fl b) {f : Fr} {tmps : Array Value} (hf : FRel R f tmps) : ∀ {l : List ResultVar} {vs : List AV}, resA P f s l = some vs →
    ∃ xs, VRels R vs xs ∧ (l.mapM (resF tmps)).run P w = .ok xs w
  | [], vs, h => by
    simp only [resA] at h
    injection h with h; subst h
    exact ⟨[], VRels.nil, rfl⟩
  | .tmp t :: r, vs, h => by
    simp only [resA] at h
    split at h
    · rename_i l' hl
      injection h with h; subst h
      obtain ⟨xs, h1, h2⟩ := resA_ok hI hf hl
      have := opnd_ok (a := ⟨tmps, []⟩) hf (.tmp t)
      exact ⟨_, VRels.cons this h1, by rw [List.mapM_cons]; simp only [resF, Sem.run_bind, Sem.run_pure, Result.andThen_ok, h2]; rfl⟩
    · cases h
  | .cell p t :: r, vs, h => by
    simp only [resA] at h
    split at h
    · rename_i k off e1
      split at h
      · rename_i B hB
        split at h
        · rename_i v l' hv hl
          injection h with h; subst h
          obtain ⟨xs, h1, h2⟩ := resA_ok hI hf hl
          have hp := opnd_ok (a := ⟨tmps, []⟩) hf (.tmp p)
          have e1' : opnd f (.tmp p) = .ptr k off := e1
          rw [e1'] at hp
          obtain ⟨b, T, r3, r4⟩ := ptr_inv hp
          have r4' : tmps.getD p undef = .pointer (some ⟨b, off, none⟩) := r4
          obtain ⟨b', T', r5, r6⟩ := hI.rel.blk hB
          obtain ⟨rfl, rfl⟩ := hI.rel.fn r3 r5
          obtain ⟨y, hy, hrun⟩ := load_ok (P := P) hv r6
          have hrun := hrun w rfl
          have : (loadVar t ⟨b, off, none⟩).run P w = .ok y w := by simpa [Instr.loadAt, Instr.sureAddr] using hrun
          refine ⟨_, VRels.cons hy h1, ?_⟩
          have hr1 : (resF tmps (.cell p t)).run P w = .ok y w := by
            simp only [resF, r4', asAddr, Sem.run_bind, Sem.run_pure, Result.andThen_ok, this]
          rw [List.mapM_cons]
          simp only [Sem.run_bind, Sem.run_pure, Result.andThen_ok, hr1, h2]
        · cases h
      · cases h
    · cases h
theorem look_dropNew_lt {j n : Nat} (hj : j < n) : ∀ {h : List (Nat × List AV)}, look j (dropNew n h) = look j h
  | [] => rfl
  | p :: h => by
    rw [dropNew_cons]
    split
    · rw [look_cons, if_neg (by omega), look_dropNew_lt hj]
    · rw [look_cons, look_cons, look_dropNew_lt hj]
theorem Went.end_ {R' : Rho} {s s' : AS} {w w' : World} {fl b : Nat} (hI : Inv R s w fl b) (h : Went R R' ⟨s.n, s.h, [], s.gl⟩ s' w w' fl b) : Went R R' s ⟨s'.n, s'.h, unionW (oldW s.n s'.wr) s.wr, s'.gl⟩ w w' fl b :=
  ⟨h.ext, h.old, h.num, h.keep, h.inv.wr_ _, h.below, h.fresh, fun _ hk => unionW_iff.2 (.inr hk), fun hk r hn => h.wrote hk r (fun hc => hn (unionW_iff.2 (.inl (oldW_iff.2 ⟨hc, (hI.rel.dom r).1⟩)))), h.other⟩
theorem Went.drop {R' : Rho} {s s' : AS} {w w' : World} {fl b : Nat} (hI : Inv R s w fl b) (h : Went R R' ⟨s.n, s.h, [], s.gl⟩ s' w w' fl b) : Went R R' s ⟨s'.n, dropNew s.n s'.h, unionW (oldW s.n s'.wr) s.wr, s'.gl⟩ w w' fl b :=
  have h' := h.end_ hI
  ⟨h'.ext, h'.old, h'.num, fun k hk => (look_dropNew_lt (by have := hI.hf; omega)).trans (h'.keep k hk),
    ⟨⟨h'.inv.rel.fn, h'.inv.rel.dom, fun h1 h2 r1 r2 => h'.inv.rel.inj (look_dropNew_some h1) (look_dropNew_some h2) r1 r2, fun h1 => h'.inv.rel.blk (look_dropNew_some h1)⟩, h'.inv.hb, h'.inv.hf, h'.inv.own, h'.inv.glo, h'.inv.kgl⟩, h'.below, h'.fresh, h'.more,
    fun hk r hn => let ⟨c1, c2⟩ := h'.wrote hk r hn; ⟨c1, (look_dropNew_lt (hI.rel.dom r).1).trans c2⟩, h'.other⟩
theorem callStep_ok {E : Ev} (hE : EvOk P E) : CallOk P (callStep P E) := by
  intro floor g l s v s' h R w base xs hI hl
  unfold callStep at h
  split at h
  · rename_i fn hfn
    split at h
    · rename_i c hc
      have hlen := hl.length
      have hf0 : FRel R (frame fn.ntmps l) (xs.toArray ++ Array.replicate (fn.ntmps - xs.toArray.size) undef) := frame_ok hl
      have body : ∀ {x : AX} {f1 : Fr} {s1 : AS}, E.code floor c (frame fn.ntmps l) ⟨s.n, s.h, [], s.gl⟩ = some (x, f1, s1) → (x = .normal ∨ x = .ret) →
          ∀ {vs : List AV}, resA P f1 s1 fn.results.toList = some vs → ∀ {s2 : AS} {u : AV}, (∀ {R' : Rho} {w' : World}, Went R R' ⟨s.n, s.h, [], s.gl⟩ s1 w w' floor base → Went R R' s s2 w w' floor base) →
          (∀ {R' : Rho} {ys : List Value}, VRels R' vs ys → VRel R' u (if h : ys.toArray.size = 1 then ys.toArray[0] else .tuple ys.toArray)) →
          Calls P g xs.toArray w fun e w' => ∃ R' x, e = .returned x ∧ VRel R' u x ∧ Went R R' s s2 w w' floor base := by
        intro x f1 s1 he hx vs hvs s2 u hs hu
        refine calls_of_wp hfn hc ?_
        refine wp_mono (hE.code he (hI.wr_ []) (a := { tmps := xs.toArray ++ Array.replicate (fn.ntmps - xs.toArray.size) undef, defers := [] }) hf0) fun e a1 w1 hq => ?_
        obtain ⟨hx', R1, hg, hf1, hd⟩ := hq
        obtain ⟨ys, h1, h2⟩ := resA_ok (P := P) hg.inv hf1 hvs
        have hres : (results fn a1.tmps).run P w1 = .ok (if h : ys.toArray.size = 1 then ys.toArray[0] else .tuple ys.toArray) w1 := by
          rw [results_eq, Array.mapM_eq_mapM_toList]
          simp only [Sem.run_bind, Sem.run_map, h2, Result.andThen_ok, Sem.run_pure]
        have fin : a1.defers = [] ∧ ∃ v, (results fn a1.tmps).run P w1 = .ok v w1 ∧ ∃ R' x, Ending.returned v = .returned x ∧ VRel R' u x ∧ Went R R' s s2 w w1 floor base :=
          ⟨hd, _, hres, R1, _, rfl, hu h1, hs hg⟩
        rcases hx with rfl | rfl
        · subst hx'; exact fin
        · subst hx'; exact fin
      have main : ∀ {x : AX} {f1 : Fr} {s1 : AS}, E.code floor c (frame fn.ntmps l) ⟨s.n, s.h, [], s.gl⟩ = some (x, f1, s1) → (x = .normal ∨ x = .ret) →
          (match resA P f1 s1 fn.results.toList with
            | some [v] => match isLit v && allL isLit l with
              | true => some (v, (⟨s1.n, dropNew s.n s1.h, unionW (oldW s.n s1.wr) s.wr, s1.gl⟩ : AS))
              | false => some (v, (⟨s1.n, s1.h, unionW (oldW s.n s1.wr) s.wr, s1.gl⟩ : AS))
            | some vs => match isLit (mkTup vs) && allL isLit l with
              | true => some (mkTup vs, (⟨s1.n, dropNew s.n s1.h, unionW (oldW s.n s1.wr) s.wr, s1.gl⟩ : AS))
              | false => some (mkTup vs, (⟨s1.n, s1.h, unionW (oldW s.n s1.wr) s.wr, s1.gl⟩ : AS))
            | none => none) = some (v, s') → Calls P g xs.toArray w fun e w' => ∃ R' x, e = .returned x ∧ VRel R' v x ∧ Went R R' s s' w w' floor base := by
        intro x f1 s1 he hx h
        split at h
        · rename_i u hvs
          have hu : ∀ {R' : Rho} {ys : List Value}, VRels R' [u] ys → VRel R' u (if h : ys.toArray.size = 1 then ys.toArray[0] else .tuple ys.toArray) := by
            intro R' ys hy
            simp only [VRels] at hy
            obtain ⟨y, ys', rfl, h1, rfl⟩ := hy
            simpa using h1
          split at h
          · injection h with h; injection h with h1 h2; subst h1 h2
            exact body he hx hvs (fun hg => hg.drop hI) hu
          · injection h with h; injection h with h1 h2; subst h1 h2
            exact body he hx hvs (fun hg => hg.end_ hI) hu
        · rename_i vs hne hvs
          have hu : ∀ {R' : Rho} {ys : List Value}, VRels R' vs ys → VRel R' (mkTup vs) (if h : ys.toArray.size = 1 then ys.toArray[0] else .tuple ys.toArray) := by
            intro R' ys hy
            have hl := hy.length
            rw [dif_neg]
            · exact VRel.mkTup hy
            · intro h1
              have h1 : vs.length = 1 := by simp at h1; omega
              obtain ⟨u, rfl⟩ := List.length_eq_one_iff.1 h1
              exact hne u rfl
          split at h
          · injection h with h; injection h with h1 h2; subst h1 h2
            exact body he hx hvs (fun hg => hg.drop hI) hu
          · injection h with h; injection h with h1 h2; subst h1 h2
            exact body he hx hvs (fun hg => hg.end_ hI) hu
        · cases h
      split at h
      · rename_i f1 s1 he; exact main he (.inl rfl) h
      · rename_i f1 s1 he; exact main he (.inr rfl) h
      · cases h
    · cases h
  · cases h
/-- Nothing that stood there has turned, and nothing of it was written. -/
theorem Went.far {s : AS} {w w' : World} {fl b : Nat} (hI : Inv R s w fl b) (hb : Below w.heap.size w w') : Went R R s s w w' fl b :=
  ⟨Ext.refl _, fun r _ => r, Nat.le_refl _, fun _ _ => rfl, ⟨hI.rel.below hb, Nat.le_trans hI.hb hb.size, hI.hf, hI.own, fun hg => hI.glo_below hg (hb.mono hI.hb), hI.kgl⟩, hb.mono hI.hb, fun r => .inl ⟨_, _, r⟩, fun _ h => h,
    fun _ r _ => ⟨hb.block _ (hI.rel.dom r).2, rfl⟩, fun k hk _ => hb.block k hk⟩
theorem knowCall_ok (hK : KnowOk P) {call : CallE} (hcall : CallOk P call) : CallOk P (knowCall call) := by
  intro floor g l s v s' h R w base xs hI hl
  unfold knowCall at h
  split at h
  · rename_i r hr
    injection h with h
    injection h with h1 h2
    subst h1 h2
    obtain ⟨h3, h4⟩ := findC_ok hr
    obtain ⟨h5, h6⟩ := hK.call _ _ _ h3
    rw [mapL_eq] at h3 h4
    rw [mapL_eq] at h6
    exact (h6 w xs hI.globs (flats_ok hI h4 hl)).mono fun e w' ⟨he, hb⟩ => ⟨R, gval r, he, ground_ok h5, Went.far hI hb⟩
  · exact hcall h hI hl
theorem ev_ok (hK : KnowOk P) (hm : P.follows .mixedOrders = true) : ∀ n, EvOk P (ev P n)
  | 0 => ⟨fun h => (by cases h), fun h => (by cases h), fun h => (by cases h), fun h => (by cases h)⟩
  | n + 1 =>
    have hE := ev_ok hK hm n
    ⟨codeStep_ok hK hE hm, loopStep_ok hE, scopeStep_ok hE, knowCall_ok hK (callStep_ok hE)⟩
theorem inv0 {w : World} (hg : Globs Env.gl w) : Inv (fun _ _ _ => False) ⟨0, [], [], Env.gl⟩ w 0 w.heap.size :=
  ⟨⟨fun h => h.elim, fun h => h.elim, (fun h => by cases h), (fun h => by cases h)⟩, Nat.le_refl _, Nat.le_refl _, fun h => h.elim, fun h => hg _ _ h, rfl⟩
/-- A RUN WITH LETTERS: what the kernel reckons is what the call comes to, in whatever memory that holds the variables, if the tables are right. -/
theorem sym_ok (hK : KnowOk P) (hm : P.follows .mixedOrders = true) {n : Nat} {g : FuncId} {l : List AV} {v : AV} (h : comes P Env.gl n g l = some v) (hl : l.all ground = true) (hv : ground v = true) {w : World} (hg : Globs Env.gl w) :
    Calls P g (l.map gval).toArray w fun e w' => e = .returned (gval v) ∧ Below w.heap.size w w' := by
  unfold comes at h
  split at h
  · rename_i u s he
    injection h with h
    subst h
    exact ((ev_ok hK hm n).call he (inv0 hg) (grounds_ok hl)).mono fun e w' ⟨R', x, he, hx, hg⟩ => ⟨by rw [he, VRel.uniq hv hx], hg.below⟩
  · cases h
theorem lit_ok (hK : KnowOk P) (hm : P.follows .mixedOrders = true) {n : Nat} {g : FuncId} {l : List Value} {v : Value} {s : AS} (h : (ev P n).call 0 g (l.map .lit) ⟨0, [], [], Env.gl⟩ = some (.lit v, s)) {w : World} (hg : Globs Env.gl w) :
    Calls P g l.toArray w fun e w' => e = .returned v ∧ Below w.heap.size w w' :=
  ((ev_ok hK hm n).call h (inv0 hg) (VRels.lits_ l)).mono fun e w' ⟨R', x, he, hx, hg⟩ => ⟨by rw [he, lit_inv hx], hg.below⟩
end
section
variable {P : Program}
theorem Globs.nil (w : World) : Globs [] w := fun _ _ h => by cases h
@[reducible] noncomputable def noEnv (gl : List (Nat × List AV)) : Env := ⟨fun _ => .int .i64 0, fun _ => rfl, gl⟩
theorem noKnow_ok (gl : List (Nat × List AV)) : @KnowOk (noEnv gl) noKnow P := @KnowOk.mk (noEnv gl) noKnow P (fun _ _ _ h => by cases h) (fun _ _ _ h => by cases h)
/-- A CLOSED RUN: what the kernel reckons is what the call comes to, in whatever memory, whatever the tape. -/
theorem closed_ok (hm : P.follows .mixedOrders = true) {n : Nat} {g : FuncId} {l : List Value} {v : Value} {s : AS} {gl : List (Nat × List AV)} (h : (@ev noKnow P n).call 0 g (mapL .lit l) ⟨0, [], [], gl⟩ = some (.lit v, s)) {w : World} (hg : Globs gl w) :
    Calls P g l.toArray w fun e w' => e = .returned v ∧ Below w.heap.size w w' := by
  rw [mapL_eq] at h
  exact @lit_ok (noEnv gl) noKnow P (noKnow_ok gl) hm n g l v s h w hg
theorem closed_with (hm : P.follows .mixedOrders = true) {gl : List (Nat × List AV)} {n : Nat} {g : FuncId} {l : List Value} {b : Bool} (h : saysG P gl n g l b = true) {w : World} (hg : Globs gl w) :
    Calls P g l.toArray w fun e w' => e = .returned (.bool b) ∧ Below w.heap.size w w' := by
  unfold saysG at h
  split at h
  · rename_i c s he
    have e : c = b := by simpa using h
    subst e
    exact closed_ok hm he hg
  · cases h
theorem closed_bool (hm : P.follows .mixedOrders = true) {n : Nat} {g : FuncId} {b : Bool} (h : saysB P n g b = true) (w : World) :
    Calls P g #[] w fun e w' => e = .returned (.bool b) ∧ Below w.heap.size w w' := closed_with hm (l := []) h (Globs.nil w)
end
end Go.Proofs.Ytfoldiieclfbgaa
set_option linter.unusedVariables false
set_option linter.unusedSimpArgs false
namespace Go.Proofs.Ytfoldiieclfbgaa
open Go Go.RowKit

theorem bex (p : Prop) : ∃ b : Bool, b = true ↔ p := by
  by_cases h : p
  · exact ⟨true, by simp [h]⟩
  · exact ⟨false, by simp [h]⟩
def envL (l : List Value) (i : Nat) : Value := l.getD i (.int .i64 0)
theorem envL_flat {l : List Value} (h : l.all (·.oneCell') = true) : ∀ i, (envL l i).oneCell' = true := by
  intro i
  unfold envL
  rw [List.getD_eq_getElem?_getD]
  cases hi : l[i]? with
  | none => rfl
  | some v =>
    rw [List.all_eq_true] at h
    exact h v (List.mem_of_getElem? hi)
@[reducible] def mkEnv (gl : List (Nat × List AV)) (l : List Value) (h : l.all (·.oneCell') = true) : Env := ⟨envL l, envL_flat h, gl⟩
section
variable [Env]
def OpT (P : Program) (k : List Nat) (l : List AV) (r : AV) : Prop :=
  ground r = true ∧ ∀ (o : Oper) xs, keyOf o = some (k, xs) → ∀ ρ : Operand → Value, (∀ g, ρ (.func g) = .func (.func g) #[] #[]) → xs.map ρ = l.map gval → ∀ w, (execOp ρ o).run P w = .ok (.value (gval r)) w
def CallT (P : Program) (g : FuncId) (l : List AV) (r : AV) : Prop :=
  ground r = true ∧ ∀ w xs, Globs Env.gl w → ARels w l xs → Calls P g xs.toArray w fun e w' => e = .returned (gval r) ∧ Below w.heap.size w w'
theorem callt {P : Program} {g : FuncId} {l : List AV} {r : AV} (hl : l.all ground = true) (hr : ground r = true) (h : ∀ w, Globs Env.gl w → Calls P g (l.map gval).toArray w fun e w' => e = .returned (gval r) ∧ Below w.heap.size w w') : CallT P g l r :=
  ⟨hr, fun w xs hG hx => by rw [@ARels.plain _ noKnow _ _ hl _ hx]; exact h w hG⟩
/-- One row of whole numbers and the like, all of it. -/
theorem callt_row {P : Program} {g : FuncId} {n : Nat} {cells : List AV} {r : AV} (hr : ground r = true) (h : ∀ w b c, Globs Env.gl w → b < w.heap.size → (∀ j v, cells[j]? = some v → w.cell? ⟨b, j, none⟩ = some (gval1 v)) → Calls P g #[.slice (some ⟨b, 0, none⟩) n c] w fun e w' => e = .returned (gval r) ∧ Below w.heap.size w w') : CallT P g [.row n 0 cells] r :=
  ⟨hr, fun w xs hG hx => by
    obtain ⟨y, ys, rfl, ⟨b, c, rfl, h1, h2⟩, rfl⟩ := hx
    exact h w b c hG h1 (fun j v hj => by have := h2 j v hj; rwa [Nat.zero_add] at this)⟩
def OpsT (P : Program) : List (List Nat × List AV × AV) → Prop
  | [] => True
  | p :: t => OpT P p.1 p.2.1 p.2.2 ∧ OpsT P t
def CallsT (P : Program) : List (FuncId × List AV × AV) → Prop
  | [] => True
  | p :: t => CallT P p.1 p.2.1 p.2.2 ∧ CallsT P t
theorem OpsT.mem {P : Program} : ∀ {t : List (List Nat × List AV × AV)}, OpsT P t → ∀ {k l r}, (k, l, r) ∈ t → OpT P k l r
  | [], _, _, _, _, h => by cases h
  | p :: t, hp, k, l, r, h => by
    rcases List.mem_cons.1 h with e | h
    · subst e; exact hp.1
    · exact OpsT.mem hp.2 h
theorem CallsT.mem {P : Program} : ∀ {t : List (FuncId × List AV × AV)}, CallsT P t → ∀ {k l r}, (k, l, r) ∈ t → CallT P k l r
  | [], _, _, _, _, h => by cases h
  | p :: t, hp, k, l, r, h => by
    rcases List.mem_cons.1 h with e | h
    · subst e; exact hp.1
    · exact CallsT.mem hp.2 h
theorem KnowOk.of [Know] {P : Program} (h1 : OpsT P Know.ops) (h2 : CallsT P Know.calls) : KnowOk P := ⟨fun k l r h => h1.mem h, fun k l r h => h2.mem h⟩
/-- A binary operation at values that are named. -/
theorem opt_bin {P : Program} {op : BinOp} {t : TypeId} {a b r : AV} (hr : ground r = true) (h : ∀ x y w, (do eqGuard op t x y (gval a) (gval b); binOp op t (gval a) (gval b)).run P w = .ok (gval r) w) : OpT P [0, binKey op, t] [a, b] r := by
  refine ⟨hr, fun o xs hk ρ hρ hx w => ?_⟩
  unfold keyOf at hk
  obtain ⟨dst, o, type, pos, after, guard⟩ := o
  simp only at hk
  split at hk
  · rename_i op' t' x y yt
    simp only [Option.some.injEq, Prod.mk.injEq, List.cons.injEq, and_true, true_and] at hk
    obtain ⟨⟨h1, h2⟩, h3⟩ := hk
    subst h2 h3
    have ho : op' = op := by cases op' <;> cases op <;> first | rfl | cases h1
    subst ho
    simp only [List.map_cons, List.map_nil, List.cons.injEq, and_true] at hx
    obtain ⟨e1, e2⟩ := hx
    have := h x y w
    simp only [execOp, e1, e2, Sem.run_bind, Sem.run_pure] at this ⊢
    rw [this]; rfl
  all_goals first
    | (simp only [Option.some.injEq, Prod.mk.injEq, List.cons.injEq] at hk; have := hk.1.1; omega)
    | (split at hk <;> first | cases hk | (simp only [Option.some.injEq, Prod.mk.injEq, List.cons.injEq] at hk; have := hk.1.1; omega))
    | cases hk
theorem opt_int {P : Program} {op : BinOp} {t : TypeId} {a b r : AV} {k : IntKind} {x y : Int} {v : Value} (ha : gval a = .int k x) (hb : gval b = .int k y) (hr : ground r = true) (hv : gval r = v) (h : ∀ w, (binOp op t (.int k x) (.int k y)).run P w = .ok v w) : OpT P [0, binKey op, t] [a, b] r := by
  refine opt_bin hr fun p q w => ?_
  rw [ha, hb, hv]
  simp only [Sem.run_bind, eqGuard_int, Result.andThen_ok]
  exact h w
theorem opt_eql {P : Program} {t : TypeId} {a b : AV} {k : IntKind} {x y : Int} {c : Bool} (ha : gval a = .int k x) (hb : gval b = .int k y) (h : (x == y) = c) : OpT P [0, 11, t] [a, b] (.lit (.bool c)) :=
  opt_int (op := .eql) ha hb rfl rfl fun w => by rw [← h]; simp [binOp, Op.intCmp, gval, gval2, gval1]
theorem opt_neq {P : Program} {t : TypeId} {a b : AV} {k : IntKind} {x y : Int} {c : Bool} (ha : gval a = .int k x) (hb : gval b = .int k y) (h : (x != y) = c) : OpT P [0, 12, t] [a, b] (.lit (.bool c)) :=
  opt_int (op := .neq) ha hb rfl rfl fun w => by rw [← h]; simp [binOp, Op.intCmp, gval, gval2, gval1]
theorem opt_lss {P : Program} {t : TypeId} {a b : AV} {k : IntKind} {x y : Int} {c : Bool} (ha : gval a = .int k x) (hb : gval b = .int k y) (h : decide (x < y) = c) : OpT P [0, 13, t] [a, b] (.lit (.bool c)) :=
  opt_int (op := .lss) ha hb rfl rfl fun w => by rw [← h]; simp [binOp, Op.intCmp, gval, gval2, gval1]
theorem opt_leq {P : Program} {t : TypeId} {a b : AV} {k : IntKind} {x y : Int} {c : Bool} (ha : gval a = .int k x) (hb : gval b = .int k y) (h : decide (x ≤ y) = c) : OpT P [0, 14, t] [a, b] (.lit (.bool c)) :=
  opt_int (op := .leq) ha hb rfl rfl fun w => by rw [← h]; simp [binOp, Op.intCmp, gval, gval2, gval1]
theorem opt_gtr {P : Program} {t : TypeId} {a b : AV} {k : IntKind} {x y : Int} {c : Bool} (ha : gval a = .int k x) (hb : gval b = .int k y) (h : decide (x > y) = c) : OpT P [0, 15, t] [a, b] (.lit (.bool c)) :=
  opt_int (op := .gtr) ha hb rfl rfl fun w => by rw [← h]; simp [binOp, Op.intCmp, gval, gval2, gval1]
theorem opt_geq {P : Program} {t : TypeId} {a b : AV} {k : IntKind} {x y : Int} {c : Bool} (ha : gval a = .int k x) (hb : gval b = .int k y) (h : decide (x ≥ y) = c) : OpT P [0, 16, t] [a, b] (.lit (.bool c)) :=
  opt_int (op := .geq) ha hb rfl rfl fun w => by rw [← h]; simp [binOp, Op.intCmp, gval, gval2, gval1]
theorem opt_eql_i {P : Program} {t : TypeId} {a b : AV} {k : IntKind} {x y : Int} {c : Bool} (ha : gval a = .int k x) (hb : gval b = .int k y) (h : c = true ↔ x = y) : OpT P [0, 11, t] [a, b] (.lit (.bool c)) := opt_eql ha hb (by rw [Bool.eq_iff_iff, h]; exact beq_iff_eq)
theorem opt_neq_i {P : Program} {t : TypeId} {a b : AV} {k : IntKind} {x y : Int} {c : Bool} (ha : gval a = .int k x) (hb : gval b = .int k y) (h : c = true ↔ x = y) : OpT P [0, 12, t] [a, b] (.lit (.bool (!c))) := opt_neq ha hb (by rw [bne, show (x == y) = c from by rw [Bool.eq_iff_iff, h]; exact beq_iff_eq])
theorem opt_lss_i {P : Program} {t : TypeId} {a b : AV} {k : IntKind} {x y : Int} {c : Bool} (ha : gval a = .int k x) (hb : gval b = .int k y) (h : c = true ↔ x < y) : OpT P [0, 13, t] [a, b] (.lit (.bool c)) := opt_lss ha hb (by rw [Bool.eq_iff_iff, h]; exact decide_eq_true_iff)
theorem opt_leq_i {P : Program} {t : TypeId} {a b : AV} {k : IntKind} {x y : Int} {c : Bool} (ha : gval a = .int k x) (hb : gval b = .int k y) (h : c = true ↔ x ≤ y) : OpT P [0, 14, t] [a, b] (.lit (.bool c)) := opt_leq ha hb (by rw [Bool.eq_iff_iff, h]; exact decide_eq_true_iff)
theorem opt_gtr_i {P : Program} {t : TypeId} {a b : AV} {k : IntKind} {x y : Int} {c : Bool} (ha : gval a = .int k x) (hb : gval b = .int k y) (h : c = true ↔ x > y) : OpT P [0, 15, t] [a, b] (.lit (.bool c)) := opt_gtr ha hb (by rw [Bool.eq_iff_iff, h]; exact decide_eq_true_iff)
theorem opt_geq_i {P : Program} {t : TypeId} {a b : AV} {k : IntKind} {x y : Int} {c : Bool} (ha : gval a = .int k x) (hb : gval b = .int k y) (h : c = true ↔ x ≥ y) : OpT P [0, 16, t] [a, b] (.lit (.bool c)) := opt_geq ha hb (by rw [Bool.eq_iff_iff, h]; exact decide_eq_true_iff)
theorem opt_eql_t {P : Program} {t : TypeId} {a b : AV} {k : IntKind} {x y : Int} (ha : gval a = .int k x) (hb : gval b = .int k y) (h : x = y) : OpT P [0, 11, t] [a, b] (.lit (.bool true)) := opt_eql ha hb (beq_iff_eq.2 h)
theorem opt_eql_f {P : Program} {t : TypeId} {a b : AV} {k : IntKind} {x y : Int} (ha : gval a = .int k x) (hb : gval b = .int k y) (h : ¬ x = y) : OpT P [0, 11, t] [a, b] (.lit (.bool false)) := opt_eql ha hb (beq_eq_false_iff_ne.2 h)
theorem opt_neq_t {P : Program} {t : TypeId} {a b : AV} {k : IntKind} {x y : Int} (ha : gval a = .int k x) (hb : gval b = .int k y) (h : ¬ x = y) : OpT P [0, 12, t] [a, b] (.lit (.bool true)) := opt_neq ha hb (by rw [bne, beq_eq_false_iff_ne.2 h]; rfl)
theorem opt_neq_f {P : Program} {t : TypeId} {a b : AV} {k : IntKind} {x y : Int} (ha : gval a = .int k x) (hb : gval b = .int k y) (h : x = y) : OpT P [0, 12, t] [a, b] (.lit (.bool false)) := opt_neq ha hb (by rw [bne, beq_iff_eq.2 h]; rfl)
theorem opt_lss_t {P : Program} {t : TypeId} {a b : AV} {k : IntKind} {x y : Int} (ha : gval a = .int k x) (hb : gval b = .int k y) (h : x < y) : OpT P [0, 13, t] [a, b] (.lit (.bool true)) := opt_lss ha hb (decide_eq_true h)
theorem opt_lss_f {P : Program} {t : TypeId} {a b : AV} {k : IntKind} {x y : Int} (ha : gval a = .int k x) (hb : gval b = .int k y) (h : ¬ x < y) : OpT P [0, 13, t] [a, b] (.lit (.bool false)) := opt_lss ha hb (decide_eq_false h)
theorem opt_leq_t {P : Program} {t : TypeId} {a b : AV} {k : IntKind} {x y : Int} (ha : gval a = .int k x) (hb : gval b = .int k y) (h : x ≤ y) : OpT P [0, 14, t] [a, b] (.lit (.bool true)) := opt_leq ha hb (decide_eq_true h)
theorem opt_leq_f {P : Program} {t : TypeId} {a b : AV} {k : IntKind} {x y : Int} (ha : gval a = .int k x) (hb : gval b = .int k y) (h : ¬ x ≤ y) : OpT P [0, 14, t] [a, b] (.lit (.bool false)) := opt_leq ha hb (decide_eq_false h)
theorem opt_gtr_t {P : Program} {t : TypeId} {a b : AV} {k : IntKind} {x y : Int} (ha : gval a = .int k x) (hb : gval b = .int k y) (h : x > y) : OpT P [0, 15, t] [a, b] (.lit (.bool true)) := opt_gtr ha hb (decide_eq_true h)
theorem opt_gtr_f {P : Program} {t : TypeId} {a b : AV} {k : IntKind} {x y : Int} (ha : gval a = .int k x) (hb : gval b = .int k y) (h : ¬ x > y) : OpT P [0, 15, t] [a, b] (.lit (.bool false)) := opt_gtr ha hb (decide_eq_false h)
theorem opt_geq_t {P : Program} {t : TypeId} {a b : AV} {k : IntKind} {x y : Int} (ha : gval a = .int k x) (hb : gval b = .int k y) (h : x ≥ y) : OpT P [0, 16, t] [a, b] (.lit (.bool true)) := opt_geq ha hb (decide_eq_true h)
theorem opt_geq_f {P : Program} {t : TypeId} {a b : AV} {k : IntKind} {x y : Int} (ha : gval a = .int k x) (hb : gval b = .int k y) (h : ¬ x ≥ y) : OpT P [0, 16, t] [a, b] (.lit (.bool false)) := opt_geq ha hb (decide_eq_false h)
end
end Go.Proofs.Ytfoldiieclfbgaa
set_option linter.unusedSimpArgs false
set_option linter.unusedVariables false
namespace Go.Proofs.Ytfoldiieclfbgaa
open Go Go.RowKit Nt

/-- No variable of the library is read. -/
@[reducible] def glT : List (Nat × List AV) := []
theorem glT_all (w : World) : Globs glT w := fun g B h => by cases h
section
variable [Env]
theorem nopt_mul {P : Program} {t : TypeId} {a b r : AV} {x y z : Nat} (ha : gval a = .int .u64 (x : Nat)) (hb : gval b = .int .u64 (y : Nat)) (hr : ground r = true) (hv : gval r = .int .u64 (z : Nat)) (h : x * y = z) (h1 : z < 18446744073709551616) : OpT P [0, 2, t] [a, b] r :=
  opt_int (op := .mul) ha hb hr hv fun w => by
    have : IntKind.u64.wrap ((x : Int) * (y : Int)) = (z : Int) := by rw [← Int.natCast_mul, h, IntKind.wrap_u64]; omega
    simp [binOp, Op.intArith, this]
theorem nopt_add {P : Program} {t : TypeId} {a b r : AV} {x y z : Nat} (ha : gval a = .int .u64 (x : Nat)) (hb : gval b = .int .u64 (y : Nat)) (hr : ground r = true) (hv : gval r = .int .u64 (z : Nat)) (h : x + y = z) (h1 : z < 18446744073709551616) : OpT P [0, 0, t] [a, b] r :=
  opt_int (op := .add) ha hb hr hv fun w => by
    have : IntKind.u64.wrap ((x : Int) + (y : Int)) = (z : Int) := by rw [IntKind.wrap_u64]; omega
    simp [binOp, Op.intArith, this]
theorem nopt_quo {P : Program} {t : TypeId} {a b r : AV} {x y z : Nat} (ha : gval a = .int .u64 (x : Nat)) (hb : gval b = .int .u64 (y : Nat)) (hr : ground r = true) (hv : gval r = .int .u64 (z : Nat)) (h : x / y = z) (hy : y ≠ 0) (h1 : x < 18446744073709551616) : OpT P [0, 3, t] [a, b] r :=
  opt_int (op := .quo) ha hb hr hv fun w => by
    have hz : z < 18446744073709551616 := by rw [← h]; exact Nat.lt_of_le_of_lt (Nat.div_le_self _ _) h1
    have h2 := (quot21 x y).2
    rw [h] at h2
    have : IntKind.u64.wrap ((x : Int).tdiv (y : Int)) = (z : Int) := by rw [h2, IntKind.wrap_u64]; omega
    have h0 : ¬ ((y : Int) = 0) := by omega
    have hw : IntKind.u64.wrap (z : Int) = (z : Int) := by rw [IntKind.wrap_u64]; omega
    have hI := (quot21 x y).1
    rw [h] at hI
    simp [binOp, Op.intArith, Op.intDiv, h2, hI, hw, h0, hy]
theorem nopt_rem {P : Program} {t : TypeId} {a b r : AV} {x y z : Nat} (ha : gval a = .int .u64 (x : Nat)) (hb : gval b = .int .u64 (y : Nat)) (hr : ground r = true) (hv : gval r = .int .u64 (z : Nat)) (h : x % y = z) (hy : y ≠ 0) (h1 : x < 18446744073709551616) : OpT P [0, 4, t] [a, b] r :=
  opt_int (op := .rem) ha hb hr hv fun w => by
    have hz : z < 18446744073709551616 := by rw [← h]; exact Nat.lt_of_le_of_lt (Nat.mod_le _ _) h1
    have h2 := (rest21 x y).2
    rw [h] at h2
    have : IntKind.u64.wrap ((x : Int).tmod (y : Int)) = (z : Int) := by rw [h2, IntKind.wrap_u64]; omega
    have h0 : ¬ ((y : Int) = 0) := by omega
    have hw : IntKind.u64.wrap (z : Int) = (z : Int) := by rw [IntKind.wrap_u64]; omega
    have hI := (rest21 x y).1
    rw [h] at hI
    simp [binOp, Op.intArith, Op.intDiv, h2, hI, hw, h0, hy]
end
end Go.Proofs.Ytfoldiieclfbgaa
set_option linter.unusedSimpArgs false
set_option linter.unusedVariables false
namespace Go.Proofs.Ytfoldiieclfbgaa
open Go Go.RowKit Nt

theorem fits21 {m : Nat} (hm : m < 18446744073709551616) : fits m := by have := br_lt.2 hm; unfold fits; omega
/-- What Small tells of a string. -/
def sm21 (s : ByteArray) (n : Nat) (b : Bool) : Prop := (b = true ∧ n < 18446744073709551616 ∧ s = natS n) ∨ (b = false ∧ n = 0 ∧ ∀ k, k < 18446744073709551616 → s ≠ natS k)
theorem sm21_ex (s : ByteArray) : ∃ n b, sm21 s n b ∧ n < 18446744073709551616 := by
  by_cases h : ∃ k, k < 18446744073709551616 ∧ s = natS k
  · obtain ⟨k, hk, rfl⟩ := h
    exact ⟨k, true, Or.inl ⟨rfl, hk, rfl⟩, hk⟩
  · exact ⟨0, false, Or.inr ⟨rfl, rfl, fun k hk e => h ⟨k, hk, e⟩⟩, by omega⟩
theorem ASmall_c (s : ByteArray) (n : Nat) (b : Bool) (w : World) (h : sm21 s n b) :
    Calls Try.prog 67 #[.string s] w fun e w' => e = .returned (.tuple #[.int .u64 (n : Nat), .bool b]) ∧ Below w.heap.size w w' := by
  rcases h with ⟨rfl, hn, rfl⟩ | ⟨rfl, rfl, hno⟩
  · have := Small_c n w (fits21 hn)
    rwa [brN_yes (br_lt.2 hn), brB_yes (br_lt.2 hn)] at this
  · by_cases hm : May s
    · obtain ⟨k, hf, rfl⟩ := may_num hm
      have hk : ¬ nd 256 k ≤ 8 := fun c => hno k (br_lt.1 c) rfl
      have := Small_c k w hf
      rwa [brN_no hk, brB_no hk] at this
    · exact Small_no s w hm
theorem rSmall21_c (s : ByteArray) (n : Nat) (b : Bool) (w : World) (hz : s.size ≤ 9223372036854775807) (h : sm21 s n b) :
    Calls Try.prog 49 #[.string s] w fun e w' => e = .returned (.tuple #[.int .u64 (n : Nat), .bool b]) ∧ w = w' := by
  rcases h with ⟨rfl, hn, rfl⟩ | ⟨rfl, rfl, hno⟩
  · have := rSmall_c n w (fits21 hn) hz
    rwa [brN_yes (br_lt.2 hn), brB_yes (br_lt.2 hn)] at this
  · by_cases hm : May s
    · obtain ⟨k, hf, rfl⟩ := may_num hm
      have hk : ¬ nd 256 k ≤ 8 := fun c => hno k (br_lt.1 c) rfl
      have := rSmall_c k w hf hz
      rwa [brN_no hk, brB_no hk] at this
    · exact rSmall_no s w hz hm
/-- Any value of the type Ratio. -/
structure Rt where
  g : Bool
  s : ByteArray
  t : ByteArray
def Rt.v (a : Rt) : Value := .agg #[.bool a.g, .string a.s, .string a.t]
def Rt.small (a : Rt) : Prop := a.s.size ≤ 9223372036854775807 ∧ a.t.size ≤ 9223372036854775807
/-- An angle in words. -/
structure An where
  n : Nat
  d : Nat
  deriving DecidableEq
def An.Ok (a : An) : Prop := a.n < a.d ∧ a.d ≤ 2147483647 ∧ Nat.gcd a.n a.d = 1
def An.r (a : An) : Rt := ⟨false, natS a.n, natS a.d⟩
/-- The angle that a Ratio is. -/
def Rt.Is (r : Rt) (a : An) : Prop := a.Ok ∧ r = a.r
def Rt.No (r : Rt) : Prop := ∀ a, ¬ r.Is a
theorem Rt.cases_ (r : Rt) : (∃ a, r.Is a) ∨ r.No := by
  by_cases h : ∃ a, r.Is a
  · exact Or.inl h
  · exact Or.inr fun a ha => h ⟨a, ha⟩
theorem An.inj {a b : An} (h : a.r = b.r) : a = b := by
  have h1 : natS a.n = natS b.n := congrArg Rt.s h
  have h2 : natS a.d = natS b.d := congrArg Rt.t h
  cases a; cases b
  simp only [An.mk.injEq]
  exact ⟨natS_inj h1, natS_inj h2⟩
theorem Rt.Is.one {r : Rt} {a b : An} (h1 : r.Is a) (h2 : r.Is b) : a = b := An.inj (h1.2.symm.trans h2.2)
/-- Why a Ratio is no angle. -/
theorem Rt.No.why {r : Rt} {n d : Nat} {b1 b2 : Bool} (h : r.No) (h1 : sm21 r.s n b1) (h2 : sm21 r.t d b2) : b1 = false ∨ b2 = false ∨ r.g = true ∨ d ≤ n ∨ 2147483647 < d ∨ Nat.gcd n d ≠ 1 := by
  rcases h1 with ⟨rfl, hn, e1⟩ | ⟨rfl, _⟩
  · rcases h2 with ⟨rfl, hd, e2⟩ | ⟨rfl, _⟩
    · refine Classical.byContradiction fun hc => ?_
      have h3 : r.g = false := by
        cases hg : r.g
        · rfl
        · exact absurd (Or.inr (Or.inr (Or.inl hg))) hc
      refine h ⟨n, d⟩ ⟨⟨?_, ?_, ?_⟩, ?_⟩
      · exact Nat.lt_of_not_le fun c => hc (Or.inr (Or.inr (Or.inr (Or.inl c))))
      · exact Nat.le_of_not_lt fun c => hc (Or.inr (Or.inr (Or.inr (Or.inr (Or.inl c)))))
      · exact Classical.byContradiction fun c => hc (Or.inr (Or.inr (Or.inr (Or.inr (Or.inr c)))))
      · cases r; simp only [An.r, Rt.mk.injEq]; exact ⟨h3, e1, e2⟩
    · exact Or.inr (Or.inl rfl)
  · exact Or.inl rfl
end Go.Proofs.Ytfoldiieclfbgaa
set_option linter.unusedVariables false
set_option linter.unusedSimpArgs false
namespace Go.Proofs.Ytfoldiieclfbgaa
open Go Go.RowKit Nt

theorem gcd_one_c {a : An} (h : Nat.gcd a.n a.d = 1) (hn : a.n < 18446744073709551616) (hd : a.d < 18446744073709551616) (w : World) : Calls Try.prog 76 #[.int .u64 (a.n : Nat), .int .u64 (a.d : Nat)] w fun e w' => e = .returned (.int .u64 1) ∧ Below w.heap.size w w' := by
  have := Agcd_c a.n a.d w hn hd
  rwa [h] at this
theorem rgcd_one_c {a : An} (h : Nat.gcd a.n a.d = 1) (hn : a.n < 18446744073709551616) (hd : a.d < 18446744073709551616) (w : World) : Calls Try.prog 50 #[.int .u64 (a.n : Nat), .int .u64 (a.d : Nat)] w fun e w' => e = .returned (.int .u64 1) ∧ Below w.heap.size w w' := by
  have := rgcd21_c a.n a.d w hn hd
  rwa [h] at this
theorem rSmall21_b (s : ByteArray) (n : Nat) (b : Bool) (w : World) (hz : s.size ≤ 9223372036854775807) (h : sm21 s n b) : Calls Try.prog 49 #[.string s] w fun e w' => e = .returned (.tuple #[.int .u64 (n : Nat), .bool b]) ∧ Below w.heap.size w w' :=
  (rSmall21_c s n b w hz h).mono fun e w' hh => ⟨hh.1, by rw [← hh.2]; exact Below.refl _ _⟩
theorem ASmall_i (s : ByteArray) (n : Nat) (b : Bool) {c : Bool} (w : World) (h : sm21 s n b) (hc : c = true ↔ b = true) : Calls Try.prog 67 #[.string s] w fun e w' => e = .returned (.tuple #[.int .u64 (n : Nat), .bool c]) ∧ Below w.heap.size w w' := by
  rw [show c = b from Bool.eq_iff_iff.2 hc]; exact ASmall_c s n b w h
theorem rSmall21_i (s : ByteArray) (n : Nat) (b : Bool) {c : Bool} (w : World) (hz : s.size ≤ 9223372036854775807) (h : sm21 s n b) (hc : c = true ↔ b = true) : Calls Try.prog 49 #[.string s] w fun e w' => e = .returned (.tuple #[.int .u64 (n : Nat), .bool c]) ∧ Below w.heap.size w w' := by
  rw [show c = b from Bool.eq_iff_iff.2 hc]; exact rSmall21_b s n b w hz h
theorem natS_small {n : Nat} (h : n < 18446744073709551616) : (natS n).size ≤ 9223372036854775807 := by
  rw [natS_size]; have := br_lt.2 h; omega

@[reducible] def Aopen_k_f : FuncId := 51
@[reducible] def Aopen_k_a : List AV := [.agg [.lit (.bool false), .sym 0, .sym 1]]
@[reducible] noncomputable def Aopen_k_k : Know := ⟨[([0, 16, 28], [.sym 2, .sym 3], .lit (.bool false)),
  ([0, 15, 28], [.sym 3, .lit (.int .u64 2147483647)], .lit (.bool false)),
  ([0, 12, 28], [.sym 4, .lit (.int .u64 1)], .lit (.bool false))],
  [(67, [.sym 0], .tup [.sym 2, .lit (.bool true)]),
  (67, [.sym 1], .tup [.sym 3, .lit (.bool true)]),
  (76, [.sym 2, .sym 3], .sym 4)]⟩
theorem Aopen_k_r1 : @comes Aopen_k_k Try.prog glT 3000 Aopen_k_f Aopen_k_a = some (.tup [.agg [.sym 2, .sym 3], .lit (.int .i64 0)]) := by kernel_rfl

set_option maxRecDepth 100000 in
set_option maxHeartbeats 4000000 in
theorem Aopen_k (a : An) (w : World) (h : a.Ok) (hbn : a.n < 18446744073709551616) (hbd : a.d < 18446744073709551616) : Calls Try.prog 51 #[.agg #[.bool false, .string (natS a.n), .string (natS a.d)]] w fun e w' => e = .returned (.tuple #[.agg #[.int .u64 (a.n : Nat), .int .u64 (a.d : Nat)], .int .i64 0]) ∧ Below w.heap.size w w' := by
  have hG : Globs glT w := glT_all w
  have h1 : ¬ (((a.n : Nat) : Int) ≥ ((a.d : Nat) : Int)) := (by have := h.1; omega)
  have i1 : false = true ↔ (((a.n : Nat) : Int) ≥ ((a.d : Nat) : Int)) := ⟨fun k => absurd k Bool.false_ne_true, fun k => absurd k h1⟩
  have h2 : ¬ (((a.d : Nat) : Int) > 2147483647) := (by have := h.2.1; omega)
  have i2 : false = true ↔ (((a.d : Nat) : Int) > 2147483647) := ⟨fun k => absurd k Bool.false_ne_true, fun k => absurd k h2⟩
  have h3 : ((Nat.gcd a.n a.d : Nat) : Int) = 1 := (by rw [h.2.2]; rfl)
  have i3 : true = true ↔ (((Nat.gcd a.n a.d : Nat) : Int) = 1) := ⟨fun _ => h3, fun _ => rfl⟩
  letI : Env := mkEnv glT [.string (natS a.n), .string (natS a.d), .int .u64 ((a.n : Nat) : Int), .int .u64 ((a.d : Nat) : Int), .int .u64 ((Nat.gcd a.n a.d : Nat) : Int)] rfl
  have hops : OpsT Try.prog (@Know.ops Aopen_k_k) := ⟨opt_geq_i rfl rfl i1,
    opt_gtr_i rfl rfl i2,
    opt_neq_i rfl rfl i3,
    trivial⟩
  have hcalls : CallsT Try.prog (@Know.calls Aopen_k_k) := ⟨callt rfl rfl fun w hG => ASmall_c (natS a.n) a.n true w (Or.inl ⟨rfl, hbn, rfl⟩),
    callt rfl rfl fun w hG => ASmall_c (natS a.d) a.d true w (Or.inl ⟨rfl, hbd, rfl⟩),
    callt rfl rfl fun w hG => Agcd_c a.n a.d w hbn hbd,
    trivial⟩
  have fin : ∀ v, @comes Aopen_k_k Try.prog glT 3000 Aopen_k_f Aopen_k_a = some v → ground v = true → Ending.returned (gval v) = .returned (.tuple #[.agg #[.int .u64 (a.n : Nat), .int .u64 (a.d : Nat)], .int .i64 0]) → Calls Try.prog 51 #[.agg #[.bool false, .string (natS a.n), .string (natS a.d)]] w fun e w' => e = .returned (.tuple #[.agg #[.int .u64 (a.n : Nat), .int .u64 (a.d : Nat)], .int .i64 0]) ∧ Below w.heap.size w w' := fun v h1 h2 h3 => (@sym_ok _ Aopen_k_k _ (@KnowOk.of _ Aopen_k_k _ hops hcalls) (by kernel_rfl) _ _ _ _ h1 rfl h2 _ hG).mono fun e w' h => ⟨h.1.trans h3, h.2⟩
  clear hops hcalls
  exact fin _ (Aopen_k_r1) rfl rfl

@[reducible] def rOf21_k_f : FuncId := 17
@[reducible] def rOf21_k_a : List AV := [.agg [.lit (.bool false), .sym 0, .sym 1]]
@[reducible] noncomputable def rOf21_k_k : Know := ⟨[([0, 16, 28], [.sym 3, .lit (.int .u64 1)], .lit (.bool true)),
  ([0, 14, 28], [.sym 3, .lit (.int .u64 2147483647)], .lit (.bool true)),
  ([0, 13, 28], [.sym 2, .sym 3], .lit (.bool true)),
  ([0, 11, 28], [.sym 4, .lit (.int .u64 1)], .lit (.bool true))],
  [(49, [.sym 0], .tup [.sym 2, .lit (.bool true)]),
  (49, [.sym 1], .tup [.sym 3, .lit (.bool true)]),
  (50, [.sym 2, .sym 3], .sym 4)]⟩
theorem rOf21_k_r1 : @comes rOf21_k_k Try.prog glT 3000 rOf21_k_f rOf21_k_a = some (.tup [.agg [.sym 2, .sym 3], .lit (.bool true)]) := by kernel_rfl

set_option maxRecDepth 100000 in
set_option maxHeartbeats 4000000 in
theorem rOf21_k (a : An) (w : World) (h : a.Ok) (hbn : a.n < 18446744073709551616) (hbd : a.d < 18446744073709551616) : Calls Try.prog 17 #[.agg #[.bool false, .string (natS a.n), .string (natS a.d)]] w fun e w' => e = .returned (.tuple #[.agg #[.int .u64 (a.n : Nat), .int .u64 (a.d : Nat)], .bool true]) ∧ Below w.heap.size w w' := by
  have hG : Globs glT w := glT_all w
  have h1 : ((a.d : Nat) : Int) ≥ 1 := (by have := h.1; omega)
  have i1 : true = true ↔ (((a.d : Nat) : Int) ≥ 1) := ⟨fun _ => h1, fun _ => rfl⟩
  have h2 : ((a.d : Nat) : Int) ≤ 2147483647 := (by have := h.2.1; omega)
  have i2 : true = true ↔ (((a.d : Nat) : Int) ≤ 2147483647) := ⟨fun _ => h2, fun _ => rfl⟩
  have h3 : ((a.n : Nat) : Int) < ((a.d : Nat) : Int) := (by have := h.1; omega)
  have i3 : true = true ↔ (((a.n : Nat) : Int) < ((a.d : Nat) : Int)) := ⟨fun _ => h3, fun _ => rfl⟩
  have h4 : ((Nat.gcd a.n a.d : Nat) : Int) = 1 := (by rw [h.2.2]; rfl)
  have i4 : true = true ↔ (((Nat.gcd a.n a.d : Nat) : Int) = 1) := ⟨fun _ => h4, fun _ => rfl⟩
  letI : Env := mkEnv glT [.string (natS a.n), .string (natS a.d), .int .u64 ((a.n : Nat) : Int), .int .u64 ((a.d : Nat) : Int), .int .u64 ((Nat.gcd a.n a.d : Nat) : Int)] rfl
  have hops : OpsT Try.prog (@Know.ops rOf21_k_k) := ⟨opt_geq_i rfl rfl i1,
    opt_leq_i rfl rfl i2,
    opt_lss_i rfl rfl i3,
    opt_eql_i rfl rfl i4,
    trivial⟩
  have hcalls : CallsT Try.prog (@Know.calls rOf21_k_k) := ⟨callt rfl rfl fun w hG => rSmall21_b (natS a.n) a.n true w (natS_small hbn) (Or.inl ⟨rfl, hbn, rfl⟩),
    callt rfl rfl fun w hG => rSmall21_b (natS a.d) a.d true w (natS_small hbd) (Or.inl ⟨rfl, hbd, rfl⟩),
    callt rfl rfl fun w hG => rgcd21_c a.n a.d w hbn hbd,
    trivial⟩
  have fin : ∀ v, @comes rOf21_k_k Try.prog glT 3000 rOf21_k_f rOf21_k_a = some v → ground v = true → Ending.returned (gval v) = .returned (.tuple #[.agg #[.int .u64 (a.n : Nat), .int .u64 (a.d : Nat)], .bool true]) → Calls Try.prog 17 #[.agg #[.bool false, .string (natS a.n), .string (natS a.d)]] w fun e w' => e = .returned (.tuple #[.agg #[.int .u64 (a.n : Nat), .int .u64 (a.d : Nat)], .bool true]) ∧ Below w.heap.size w w' := fun v h1 h2 h3 => (@sym_ok _ rOf21_k_k _ (@KnowOk.of _ rOf21_k_k _ hops hcalls) (by kernel_rfl) _ _ _ _ h1 rfl h2 _ hG).mono fun e w' h => ⟨h.1.trans h3, h.2⟩
  clear hops hcalls
  exact fin _ (rOf21_k_r1) rfl rfl

theorem no_none {r : Rt} {n d : Nat} {p q : Bool} (h : r.No) (h1 : sm21 r.s n p) (h2 : sm21 r.t d q) (hp : p = true) (hq : q = true) (hg : ¬ r.g = true) (a1 : n < d) (a2 : d ≤ 2147483647) (a3 : Nat.gcd n d = 1) : False := by
  rcases h.why h1 h2 with e | e | e | e | e | e
  · rw [hp] at e; cases e
  · rw [hq] at e; cases e
  · exact hg e
  · omega
  · omega
  · exact e a3

@[reducible] def Aopen_n_f : FuncId := 51
@[reducible] def Aopen_n_a : List AV := [.agg [.lit (.bool false), .sym 0, .sym 1]]
@[reducible] noncomputable def Aopen_n_k (b1 b2 b3 b4 b5 : Bool) : Know := ⟨[([0, 16, 28], [.sym 2, .sym 3], .lit (.bool b3)),
  ([0, 15, 28], [.sym 3, .lit (.int .u64 2147483647)], .lit (.bool b4)),
  ([0, 12, 28], [.sym 4, .lit (.int .u64 1)], .lit (.bool (!b5)))],
  [(67, [.sym 0], .tup [.sym 2, .lit (.bool b1)]),
  (67, [.sym 1], .tup [.sym 3, .lit (.bool b2)]),
  (76, [.sym 2, .sym 3], .sym 4)]⟩
theorem Aopen_n_r1 (b4 b5 : Bool) : @comes (Aopen_n_k true true true b4 b5) Try.prog glT 3000 Aopen_n_f Aopen_n_a = some (.lit (.tuple #[.agg #[.int .u64 0, .int .u64 0], .int .i64 210])) := by kernel_rfl
theorem Aopen_n_r2 (b5 : Bool) : @comes (Aopen_n_k true true false true b5) Try.prog glT 3000 Aopen_n_f Aopen_n_a = some (.lit (.tuple #[.agg #[.int .u64 0, .int .u64 0], .int .i64 210])) := by kernel_rfl
theorem Aopen_n_r3 : @comes (Aopen_n_k true true false false false) Try.prog glT 3000 Aopen_n_f Aopen_n_a = some (.lit (.tuple #[.agg #[.int .u64 0, .int .u64 0], .int .i64 210])) := by kernel_rfl
theorem Aopen_n_r4 (b3 b4 b5 : Bool) : @comes (Aopen_n_k true false b3 b4 b5) Try.prog glT 3000 Aopen_n_f Aopen_n_a = some (.lit (.tuple #[.agg #[.int .u64 0, .int .u64 0], .int .i64 210])) := by kernel_rfl
theorem Aopen_n_r5 (b2 b3 b4 b5 : Bool) : @comes (Aopen_n_k false b2 b3 b4 b5) Try.prog glT 3000 Aopen_n_f Aopen_n_a = some (.lit (.tuple #[.agg #[.int .u64 0, .int .u64 0], .int .i64 210])) := by kernel_rfl

set_option maxRecDepth 100000 in
set_option maxHeartbeats 4000000 in
theorem Aopen_n (r : Rt) (n d : Nat) (p q : Bool) (w : World) (hg : r.g = false) (hno : r.No) (hz : r.small) (k1 : sm21 r.s n p) (k2 : sm21 r.t d q) (hn : n < 18446744073709551616) (hd : d < 18446744073709551616) : Calls Try.prog 51 #[.agg #[.bool false, .string r.s, .string r.t]] w fun e w' => e = .returned (.tuple #[.agg #[.int .u64 0, .int .u64 0], .int .i64 210]) ∧ Below w.heap.size w w' := by
  have hG : Globs glT w := glT_all w
  obtain ⟨b1, i1⟩ := bex (p = true)
  obtain ⟨b2, i2⟩ := bex (q = true)
  obtain ⟨b3, i3⟩ := bex (((n : Nat) : Int) ≥ ((d : Nat) : Int))
  obtain ⟨b4, i4⟩ := bex (((d : Nat) : Int) > 2147483647)
  obtain ⟨b5, i5⟩ := bex (((Nat.gcd n d : Nat) : Int) = 1)
  letI : Env := mkEnv glT [.string r.s, .string r.t, .int .u64 ((n : Nat) : Int), .int .u64 ((d : Nat) : Int), .int .u64 ((Nat.gcd n d : Nat) : Int)] rfl
  have hops : OpsT Try.prog (@Know.ops (Aopen_n_k b1 b2 b3 b4 b5)) := ⟨opt_geq_i rfl rfl i3,
    opt_gtr_i rfl rfl i4,
    opt_neq_i rfl rfl i5,
    trivial⟩
  have hcalls : CallsT Try.prog (@Know.calls (Aopen_n_k b1 b2 b3 b4 b5)) := ⟨callt rfl rfl fun w hG => ASmall_i r.s n p w k1 i1,
    callt rfl rfl fun w hG => ASmall_i r.t d q w k2 i2,
    callt rfl rfl fun w hG => Agcd_c n d w hn hd,
    trivial⟩
  have fin : ∀ v, @comes (Aopen_n_k b1 b2 b3 b4 b5) Try.prog glT 3000 Aopen_n_f Aopen_n_a = some v → ground v = true → Ending.returned (gval v) = .returned (.tuple #[.agg #[.int .u64 0, .int .u64 0], .int .i64 210]) → Calls Try.prog 51 #[.agg #[.bool false, .string r.s, .string r.t]] w fun e w' => e = .returned (.tuple #[.agg #[.int .u64 0, .int .u64 0], .int .i64 210]) ∧ Below w.heap.size w w' := fun v h1 h2 h3 => (@sym_ok _ (Aopen_n_k b1 b2 b3 b4 b5) _ (@KnowOk.of _ (Aopen_n_k b1 b2 b3 b4 b5) _ hops hcalls) (by kernel_rfl) _ _ _ _ h1 rfl h2 _ hG).mono fun e w' h => ⟨h.1.trans h3, h.2⟩
  clear hops hcalls
  cases b1 with
  | true =>
    have h1 : p = true := i1.1 rfl
    cases b2 with
    | true =>
      have h2 : q = true := i2.1 rfl
      cases b3 with
      | true =>
        have h3 : ((n : Nat) : Int) ≥ ((d : Nat) : Int) := i3.1 rfl
        exact fin _ (Aopen_n_r1 b4 b5) rfl rfl
      | false =>
        have h3 : ¬ (((n : Nat) : Int) ≥ ((d : Nat) : Int)) := fun c => Bool.false_ne_true (i3.2 c)
        cases b4 with
        | true =>
          have h4 : ((d : Nat) : Int) > 2147483647 := i4.1 rfl
          exact fin _ (Aopen_n_r2 b5) rfl rfl
        | false =>
          have h4 : ¬ (((d : Nat) : Int) > 2147483647) := fun c => Bool.false_ne_true (i4.2 c)
          cases b5 with
          | true =>
            exact absurd (i5.1 rfl) ((fun c => no_none hno k1 k2 h1 h2 (by rw [hg]; decide) (by omega) (by omega) (by omega)))
          | false =>
            have h5 : ¬ (((Nat.gcd n d : Nat) : Int) = 1) := fun c => Bool.false_ne_true (i5.2 c)
            exact fin _ (Aopen_n_r3) rfl rfl
    | false =>
      have h2 : ¬ (q = true) := fun c => Bool.false_ne_true (i2.2 c)
      exact fin _ (Aopen_n_r4 b3 b4 b5) rfl rfl
  | false =>
    have h1 : ¬ (p = true) := fun c => Bool.false_ne_true (i1.2 c)
    exact fin _ (Aopen_n_r5 b2 b3 b4 b5) rfl rfl

@[reducible] def rOf21_n_f : FuncId := 17
@[reducible] def rOf21_n_a : List AV := [.agg [.lit (.bool false), .sym 0, .sym 1]]
@[reducible] noncomputable def rOf21_n_k (b1 b2 b3 b4 b5 b6 : Bool) : Know := ⟨[([0, 16, 28], [.sym 3, .lit (.int .u64 1)], .lit (.bool b3)),
  ([0, 14, 28], [.sym 3, .lit (.int .u64 2147483647)], .lit (.bool b4)),
  ([0, 13, 28], [.sym 2, .sym 3], .lit (.bool b5)),
  ([0, 11, 28], [.sym 4, .lit (.int .u64 1)], .lit (.bool b6))],
  [(49, [.sym 0], .tup [.sym 2, .lit (.bool b1)]),
  (49, [.sym 1], .tup [.sym 3, .lit (.bool b2)]),
  (50, [.sym 2, .sym 3], .sym 4)]⟩
theorem rOf21_n_r1 : @comes (rOf21_n_k true true true true true false) Try.prog glT 3000 rOf21_n_f rOf21_n_a = some (.lit (.tuple #[.agg #[.int .u64 0, .int .u64 0], .bool false])) := by kernel_rfl
theorem rOf21_n_r2 (b6 : Bool) : @comes (rOf21_n_k true true true true false b6) Try.prog glT 3000 rOf21_n_f rOf21_n_a = some (.lit (.tuple #[.agg #[.int .u64 0, .int .u64 0], .bool false])) := by kernel_rfl
theorem rOf21_n_r3 (b5 b6 : Bool) : @comes (rOf21_n_k true true true false b5 b6) Try.prog glT 3000 rOf21_n_f rOf21_n_a = some (.lit (.tuple #[.agg #[.int .u64 0, .int .u64 0], .bool false])) := by kernel_rfl
theorem rOf21_n_r4 (b4 b5 b6 : Bool) : @comes (rOf21_n_k true true false b4 b5 b6) Try.prog glT 3000 rOf21_n_f rOf21_n_a = some (.lit (.tuple #[.agg #[.int .u64 0, .int .u64 0], .bool false])) := by kernel_rfl
theorem rOf21_n_r5 (b3 b4 b5 b6 : Bool) : @comes (rOf21_n_k true false b3 b4 b5 b6) Try.prog glT 3000 rOf21_n_f rOf21_n_a = some (.lit (.tuple #[.agg #[.int .u64 0, .int .u64 0], .bool false])) := by kernel_rfl
theorem rOf21_n_r6 (b2 b3 b4 b5 b6 : Bool) : @comes (rOf21_n_k false b2 b3 b4 b5 b6) Try.prog glT 3000 rOf21_n_f rOf21_n_a = some (.lit (.tuple #[.agg #[.int .u64 0, .int .u64 0], .bool false])) := by kernel_rfl

set_option maxRecDepth 100000 in
set_option maxHeartbeats 4000000 in
theorem rOf21_n (r : Rt) (n d : Nat) (p q : Bool) (w : World) (hg : r.g = false) (hno : r.No) (hz : r.small) (k1 : sm21 r.s n p) (k2 : sm21 r.t d q) (hn : n < 18446744073709551616) (hd : d < 18446744073709551616) : Calls Try.prog 17 #[.agg #[.bool false, .string r.s, .string r.t]] w fun e w' => e = .returned (.tuple #[.agg #[.int .u64 0, .int .u64 0], .bool false]) ∧ Below w.heap.size w w' := by
  have hG : Globs glT w := glT_all w
  obtain ⟨b1, i1⟩ := bex (p = true)
  obtain ⟨b2, i2⟩ := bex (q = true)
  obtain ⟨b3, i3⟩ := bex (((d : Nat) : Int) ≥ 1)
  obtain ⟨b4, i4⟩ := bex (((d : Nat) : Int) ≤ 2147483647)
  obtain ⟨b5, i5⟩ := bex (((n : Nat) : Int) < ((d : Nat) : Int))
  obtain ⟨b6, i6⟩ := bex (((Nat.gcd n d : Nat) : Int) = 1)
  letI : Env := mkEnv glT [.string r.s, .string r.t, .int .u64 ((n : Nat) : Int), .int .u64 ((d : Nat) : Int), .int .u64 ((Nat.gcd n d : Nat) : Int)] rfl
  have hops : OpsT Try.prog (@Know.ops (rOf21_n_k b1 b2 b3 b4 b5 b6)) := ⟨opt_geq_i rfl rfl i3,
    opt_leq_i rfl rfl i4,
    opt_lss_i rfl rfl i5,
    opt_eql_i rfl rfl i6,
    trivial⟩
  have hcalls : CallsT Try.prog (@Know.calls (rOf21_n_k b1 b2 b3 b4 b5 b6)) := ⟨callt rfl rfl fun w hG => rSmall21_i r.s n p w hz.1 k1 i1,
    callt rfl rfl fun w hG => rSmall21_i r.t d q w hz.2 k2 i2,
    callt rfl rfl fun w hG => rgcd21_c n d w hn hd,
    trivial⟩
  have fin : ∀ v, @comes (rOf21_n_k b1 b2 b3 b4 b5 b6) Try.prog glT 3000 rOf21_n_f rOf21_n_a = some v → ground v = true → Ending.returned (gval v) = .returned (.tuple #[.agg #[.int .u64 0, .int .u64 0], .bool false]) → Calls Try.prog 17 #[.agg #[.bool false, .string r.s, .string r.t]] w fun e w' => e = .returned (.tuple #[.agg #[.int .u64 0, .int .u64 0], .bool false]) ∧ Below w.heap.size w w' := fun v h1 h2 h3 => (@sym_ok _ (rOf21_n_k b1 b2 b3 b4 b5 b6) _ (@KnowOk.of _ (rOf21_n_k b1 b2 b3 b4 b5 b6) _ hops hcalls) (by kernel_rfl) _ _ _ _ h1 rfl h2 _ hG).mono fun e w' h => ⟨h.1.trans h3, h.2⟩
  clear hops hcalls
  cases b1 with
  | true =>
    have h1 : p = true := i1.1 rfl
    cases b2 with
    | true =>
      have h2 : q = true := i2.1 rfl
      cases b3 with
      | true =>
        have h3 : ((d : Nat) : Int) ≥ 1 := i3.1 rfl
        cases b4 with
        | true =>
          have h4 : ((d : Nat) : Int) ≤ 2147483647 := i4.1 rfl
          cases b5 with
          | true =>
            have h5 : ((n : Nat) : Int) < ((d : Nat) : Int) := i5.1 rfl
            cases b6 with
            | true =>
              exact absurd (i6.1 rfl) ((fun c => no_none hno k1 k2 h1 h2 (by rw [hg]; decide) (by omega) (by omega) (by omega)))
            | false =>
              have h6 : ¬ (((Nat.gcd n d : Nat) : Int) = 1) := fun c => Bool.false_ne_true (i6.2 c)
              exact fin _ (rOf21_n_r1) rfl rfl
          | false =>
            have h5 : ¬ (((n : Nat) : Int) < ((d : Nat) : Int)) := fun c => Bool.false_ne_true (i5.2 c)
            exact fin _ (rOf21_n_r2 b6) rfl rfl
        | false =>
          have h4 : ¬ (((d : Nat) : Int) ≤ 2147483647) := fun c => Bool.false_ne_true (i4.2 c)
          exact fin _ (rOf21_n_r3 b5 b6) rfl rfl
      | false =>
        have h3 : ¬ (((d : Nat) : Int) ≥ 1) := fun c => Bool.false_ne_true (i3.2 c)
        exact fin _ (rOf21_n_r4 b4 b5 b6) rfl rfl
    | false =>
      have h2 : ¬ (q = true) := fun c => Bool.false_ne_true (i2.2 c)
      exact fin _ (rOf21_n_r5 b3 b4 b5 b6) rfl rfl
  | false =>
    have h1 : ¬ (p = true) := fun c => Bool.false_ne_true (i1.2 c)
    exact fin _ (rOf21_n_r6 b2 b3 b4 b5 b6) rfl rfl

@[reducible] def Aopen_t_f : FuncId := 51
@[reducible] def Aopen_t_a : List AV := [.agg [.lit (.bool true), .sym 0, .sym 1]]
@[reducible] noncomputable def Aopen_t_k (b1 b2 : Bool) : Know := ⟨[],
  [(67, [.sym 0], .tup [.sym 2, .lit (.bool b1)]),
  (67, [.sym 1], .tup [.sym 3, .lit (.bool b2)])]⟩
theorem Aopen_t_r1 : @comes (Aopen_t_k true true) Try.prog glT 3000 Aopen_t_f Aopen_t_a = some (.lit (.tuple #[.agg #[.int .u64 0, .int .u64 0], .int .i64 210])) := by kernel_rfl
theorem Aopen_t_r2 : @comes (Aopen_t_k true false) Try.prog glT 3000 Aopen_t_f Aopen_t_a = some (.lit (.tuple #[.agg #[.int .u64 0, .int .u64 0], .int .i64 210])) := by kernel_rfl
theorem Aopen_t_r3 (b2 : Bool) : @comes (Aopen_t_k false b2) Try.prog glT 3000 Aopen_t_f Aopen_t_a = some (.lit (.tuple #[.agg #[.int .u64 0, .int .u64 0], .int .i64 210])) := by kernel_rfl

set_option maxRecDepth 100000 in
set_option maxHeartbeats 4000000 in
theorem Aopen_t (r : Rt) (n d : Nat) (p q : Bool) (w : World) (hz : r.small) (k1 : sm21 r.s n p) (k2 : sm21 r.t d q) : Calls Try.prog 51 #[.agg #[.bool true, .string r.s, .string r.t]] w fun e w' => e = .returned (.tuple #[.agg #[.int .u64 0, .int .u64 0], .int .i64 210]) ∧ Below w.heap.size w w' := by
  have hG : Globs glT w := glT_all w
  obtain ⟨b1, i1⟩ := bex (p = true)
  obtain ⟨b2, i2⟩ := bex (q = true)
  letI : Env := mkEnv glT [.string r.s, .string r.t, .int .u64 ((n : Nat) : Int), .int .u64 ((d : Nat) : Int)] rfl
  have hops : OpsT Try.prog (@Know.ops (Aopen_t_k b1 b2)) := trivial
  have hcalls : CallsT Try.prog (@Know.calls (Aopen_t_k b1 b2)) := ⟨callt rfl rfl fun w hG => ASmall_i r.s n p w k1 i1,
    callt rfl rfl fun w hG => ASmall_i r.t d q w k2 i2,
    trivial⟩
  have fin : ∀ v, @comes (Aopen_t_k b1 b2) Try.prog glT 3000 Aopen_t_f Aopen_t_a = some v → ground v = true → Ending.returned (gval v) = .returned (.tuple #[.agg #[.int .u64 0, .int .u64 0], .int .i64 210]) → Calls Try.prog 51 #[.agg #[.bool true, .string r.s, .string r.t]] w fun e w' => e = .returned (.tuple #[.agg #[.int .u64 0, .int .u64 0], .int .i64 210]) ∧ Below w.heap.size w w' := fun v h1 h2 h3 => (@sym_ok _ (Aopen_t_k b1 b2) _ (@KnowOk.of _ (Aopen_t_k b1 b2) _ hops hcalls) (by kernel_rfl) _ _ _ _ h1 rfl h2 _ hG).mono fun e w' h => ⟨h.1.trans h3, h.2⟩
  clear hops hcalls
  cases b1 with
  | true =>
    have h1 : p = true := i1.1 rfl
    cases b2 with
    | true =>
      have h2 : q = true := i2.1 rfl
      exact fin _ (Aopen_t_r1) rfl rfl
    | false =>
      have h2 : ¬ (q = true) := fun c => Bool.false_ne_true (i2.2 c)
      exact fin _ (Aopen_t_r2) rfl rfl
  | false =>
    have h1 : ¬ (p = true) := fun c => Bool.false_ne_true (i1.2 c)
    exact fin _ (Aopen_t_r3 b2) rfl rfl

@[reducible] def rOf21_t_f : FuncId := 17
@[reducible] def rOf21_t_a : List AV := [.agg [.lit (.bool true), .sym 0, .sym 1]]
@[reducible] noncomputable def rOf21_t_k (b1 b2 : Bool) : Know := ⟨[],
  [(49, [.sym 0], .tup [.sym 2, .lit (.bool b1)]),
  (49, [.sym 1], .tup [.sym 3, .lit (.bool b2)])]⟩
theorem rOf21_t_r1 : @comes (rOf21_t_k true true) Try.prog glT 3000 rOf21_t_f rOf21_t_a = some (.lit (.tuple #[.agg #[.int .u64 0, .int .u64 0], .bool false])) := by kernel_rfl
theorem rOf21_t_r2 : @comes (rOf21_t_k true false) Try.prog glT 3000 rOf21_t_f rOf21_t_a = some (.lit (.tuple #[.agg #[.int .u64 0, .int .u64 0], .bool false])) := by kernel_rfl
theorem rOf21_t_r3 (b2 : Bool) : @comes (rOf21_t_k false b2) Try.prog glT 3000 rOf21_t_f rOf21_t_a = some (.lit (.tuple #[.agg #[.int .u64 0, .int .u64 0], .bool false])) := by kernel_rfl

set_option maxRecDepth 100000 in
set_option maxHeartbeats 4000000 in
theorem rOf21_t (r : Rt) (n d : Nat) (p q : Bool) (w : World) (hz : r.small) (k1 : sm21 r.s n p) (k2 : sm21 r.t d q) : Calls Try.prog 17 #[.agg #[.bool true, .string r.s, .string r.t]] w fun e w' => e = .returned (.tuple #[.agg #[.int .u64 0, .int .u64 0], .bool false]) ∧ Below w.heap.size w w' := by
  have hG : Globs glT w := glT_all w
  obtain ⟨b1, i1⟩ := bex (p = true)
  obtain ⟨b2, i2⟩ := bex (q = true)
  letI : Env := mkEnv glT [.string r.s, .string r.t, .int .u64 ((n : Nat) : Int), .int .u64 ((d : Nat) : Int)] rfl
  have hops : OpsT Try.prog (@Know.ops (rOf21_t_k b1 b2)) := trivial
  have hcalls : CallsT Try.prog (@Know.calls (rOf21_t_k b1 b2)) := ⟨callt rfl rfl fun w hG => rSmall21_i r.s n p w hz.1 k1 i1,
    callt rfl rfl fun w hG => rSmall21_i r.t d q w hz.2 k2 i2,
    trivial⟩
  have fin : ∀ v, @comes (rOf21_t_k b1 b2) Try.prog glT 3000 rOf21_t_f rOf21_t_a = some v → ground v = true → Ending.returned (gval v) = .returned (.tuple #[.agg #[.int .u64 0, .int .u64 0], .bool false]) → Calls Try.prog 17 #[.agg #[.bool true, .string r.s, .string r.t]] w fun e w' => e = .returned (.tuple #[.agg #[.int .u64 0, .int .u64 0], .bool false]) ∧ Below w.heap.size w w' := fun v h1 h2 h3 => (@sym_ok _ (rOf21_t_k b1 b2) _ (@KnowOk.of _ (rOf21_t_k b1 b2) _ hops hcalls) (by kernel_rfl) _ _ _ _ h1 rfl h2 _ hG).mono fun e w' h => ⟨h.1.trans h3, h.2⟩
  clear hops hcalls
  cases b1 with
  | true =>
    have h1 : p = true := i1.1 rfl
    cases b2 with
    | true =>
      have h2 : q = true := i2.1 rfl
      exact fin _ (rOf21_t_r1) rfl rfl
    | false =>
      have h2 : ¬ (q = true) := fun c => Bool.false_ne_true (i2.2 c)
      exact fin _ (rOf21_t_r2) rfl rfl
  | false =>
    have h1 : ¬ (p = true) := fun c => Bool.false_ne_true (i1.2 c)
    exact fin _ (rOf21_t_r3 b2) rfl rfl

theorem An.Ok.small {a : An} (h : a.Ok) : a.n < 18446744073709551616 ∧ a.d < 18446744073709551616 := by have h1 := h.1; have h2 := h.2.1; omega
theorem Aopen_ok (a : An) (h : a.Ok) (w : World) : Calls Try.prog 51 #[.agg #[.bool false, .string (natS a.n), .string (natS a.d)]] w fun e w' => e = .returned (.tuple #[.agg #[.int .u64 (a.n : Nat), .int .u64 (a.d : Nat)], .int .i64 0]) ∧ Below w.heap.size w w' := Aopen_k a w h h.small.1 h.small.2
theorem rOf21_ok (a : An) (h : a.Ok) (w : World) : Calls Try.prog 17 #[.agg #[.bool false, .string (natS a.n), .string (natS a.d)]] w fun e w' => e = .returned (.tuple #[.agg #[.int .u64 (a.n : Nat), .int .u64 (a.d : Nat)], .bool true]) ∧ Below w.heap.size w w' := rOf21_k a w h h.small.1 h.small.2
theorem Aopen_no (r : Rt) (h : r.No) (hz : r.small) (w : World) : Calls Try.prog 51 #[.agg #[.bool r.g, .string r.s, .string r.t]] w fun e w' => e = .returned (.tuple #[.agg #[.int .u64 0, .int .u64 0], .int .i64 210]) ∧ Below w.heap.size w w' := by
  obtain ⟨n, p, h1, hn⟩ := sm21_ex r.s
  obtain ⟨d, q, h2, hd⟩ := sm21_ex r.t
  cases hg : r.g with
  | true => exact Aopen_t r n d p q w hz h1 h2
  | false => exact Aopen_n r n d p q w hg h hz h1 h2 hn hd
theorem rOf21_no (r : Rt) (h : r.No) (hz : r.small) (w : World) : Calls Try.prog 17 #[.agg #[.bool r.g, .string r.s, .string r.t]] w fun e w' => e = .returned (.tuple #[.agg #[.int .u64 0, .int .u64 0], .bool false]) ∧ Below w.heap.size w w' := by
  obtain ⟨n, p, h1, hn⟩ := sm21_ex r.s
  obtain ⟨d, q, h2, hd⟩ := sm21_ex r.t
  cases hg : r.g with
  | true => exact rOf21_t r n d p q w hz h1 h2
  | false => exact rOf21_n r n d p q w hg h hz h1 h2 hn hd

end Go.Proofs.Ytfoldiieclfbgaa
set_option linter.unusedVariables false
set_option linter.unusedSimpArgs false
namespace Go.Proofs.Ytfoldiieclfbgaa
open Go Go.RowKit Nt

open Classical in
/-- The angle that a Ratio is, if it is one. -/
@[irreducible] noncomputable def okB (r : Rt) : Bool := decide (∃ a, r.Is a)
open Classical in
@[irreducible] noncomputable def anA (r : Rt) : An := if h : ∃ a, r.Is a then h.choose else ⟨0, 0⟩
@[irreducible] noncomputable def anE (r : Rt) : Int := if okB r = true then 0 else 210
open Classical in
theorem okB_iff {r : Rt} : okB r = true ↔ ∃ a, r.Is a := by unfold okB; exact decide_eq_true_iff
theorem okB_is {r : Rt} {a : An} (h : r.Is a) : okB r = true ∧ anA r = a ∧ anE r = 0 := by
  have h1 : okB r = true := okB_iff.2 ⟨a, h⟩
  refine ⟨h1, ?_, by unfold anE; exact if_pos h1⟩
  unfold anA
  rw [dif_pos ⟨a, h⟩]
  exact (Exists.choose_spec (⟨a, h⟩ : ∃ a, r.Is a)).one h
theorem okB_no {r : Rt} (h : r.No) : okB r = false ∧ anA r = ⟨0, 0⟩ ∧ anE r = 210 := by
  have h0 : ¬ ∃ a, r.Is a := fun ⟨a, ha⟩ => h a ha
  have h1 : okB r = false := Bool.eq_false_iff.2 fun c => h0 (okB_iff.1 c)
  refine ⟨h1, by unfold anA; exact dif_neg h0, by unfold anE; rw [h1]; exact if_neg Bool.false_ne_true⟩
theorem anE_iff {r : Rt} : anE r = 0 ↔ okB r = true := by
  unfold anE
  split
  · next h => exact ⟨fun _ => h, fun _ => rfl⟩
  · next h => exact ⟨fun c => absurd c (by decide), fun c => absurd c h⟩
theorem Aopen_any (r : Rt) (hz : r.small) (w : World) : Calls Try.prog 51 #[.agg #[.bool r.g, .string r.s, .string r.t]] w fun e w' => e = .returned (.tuple #[.agg #[.int .u64 ((anA r).n : Nat), .int .u64 ((anA r).d : Nat)], .int .i64 (anE r)]) ∧ Below w.heap.size w w' := by
  rcases r.cases_ with ⟨a, h⟩ | h
  · obtain ⟨_, h2, h3⟩ := okB_is h
    rw [h2, h3]
    obtain ⟨ho, rfl⟩ := h
    exact Aopen_ok a ho w
  · obtain ⟨_, h2, h3⟩ := okB_no h
    rw [h2, h3]
    exact Aopen_no r h hz w
theorem rOf21_any (r : Rt) (hz : r.small) (w : World) : Calls Try.prog 17 #[.agg #[.bool r.g, .string r.s, .string r.t]] w fun e w' => e = .returned (.tuple #[.agg #[.int .u64 ((anA r).n : Nat), .int .u64 ((anA r).d : Nat)], .bool (okB r)]) ∧ Below w.heap.size w w' := by
  rcases r.cases_ with ⟨a, h⟩ | h
  · obtain ⟨h1, h2, h3⟩ := okB_is h
    rw [h1, h2]
    obtain ⟨ho, rfl⟩ := h
    exact rOf21_ok a ho w
  · obtain ⟨h1, h2, h3⟩ := okB_no h
    rw [h1, h2]
    exact rOf21_no r h hz w
theorem rOf21_i (r : Rt) (hz : r.small) {c : Bool} (w : World) (hc : c = true ↔ okB r = true) : Calls Try.prog 17 #[.agg #[.bool r.g, .string r.s, .string r.t]] w fun e w' => e = .returned (.tuple #[.agg #[.int .u64 ((anA r).n : Nat), .int .u64 ((anA r).d : Nat)], .bool c]) ∧ Below w.heap.size w w' := by
  rw [show c = okB r from Bool.eq_iff_iff.2 hc]; exact rOf21_any r hz w
/-- What made gives. -/
@[irreducible] def mdS (n d : Nat) : ByteArray := if lowDen n d ≤ 2147483647 then natS (lowNum n d) else ⟨#[]⟩
@[irreducible] def mdT (n d : Nat) : ByteArray := if lowDen n d ≤ 2147483647 then natS (lowDen n d) else ⟨#[]⟩
@[irreducible] def mdE (n d : Nat) : Int := if lowDen n d ≤ 2147483647 then 0 else 210
theorem md_ok {n d : Nat} (h : lowDen n d ≤ 2147483647) : mdS n d = natS (lowNum n d) ∧ mdT n d = natS (lowDen n d) ∧ mdE n d = 0 := by
  unfold mdS mdT mdE; rw [if_pos h, if_pos h, if_pos h]; exact ⟨rfl, rfl, rfl⟩
theorem md_no {n d : Nat} (h : ¬ lowDen n d ≤ 2147483647) : mdS n d = ⟨#[]⟩ ∧ mdT n d = ⟨#[]⟩ ∧ mdE n d = 210 := by
  unfold mdS mdT mdE; rw [if_neg h, if_neg h, if_neg h]; exact ⟨rfl, rfl, rfl⟩
theorem An.Ok.le {a : An} (h : a.Ok) : a.n ≤ 2147483647 ∧ a.d ≤ 2147483647 ∧ 0 < a.d := by have h1 := h.1; have h2 := h.2.1; omega
theorem prod_lt {x y : Nat} (hx : x ≤ 2147483647) (hy : y ≤ 2147483647) : x * y < 18446744073709551616 := Nat.lt_of_le_of_lt (mul31 hx hy) (by decide)
/-- One angle lies ahead of another. -/
def ltA (a b : An) : Bool := decide (a.n * b.d < b.n * a.d)
def btwA (a x b : An) : Bool := if ltA a b = true then ltA a x && ltA x b else if ltA b a = true then ltA a x || ltA x b else !decide (x = a)
theorem cmp21_neg {x y : Nat} : cmp21 x y < 0 ↔ x < y := by
  rcases Nat.lt_trichotomy x y with h | h | h
  · rw [cmp21_lt h]; simp [h]
  · subst h; rw [cmp21_eq]; simp
  · rw [cmp21_gt h]; simp; omega
theorem cmp21_m1 {x y : Nat} : cmp21 x y = -1 ↔ x < y := by
  rcases Nat.lt_trichotomy x y with h | h | h
  · rw [cmp21_lt h]; simp [h]
  · subst h; rw [cmp21_eq]; simp
  · rw [cmp21_gt h]; simp; omega
theorem cmp21_p1 {x y : Nat} : cmp21 x y = 1 ↔ y < x := by
  rcases Nat.lt_trichotomy x y with h | h | h
  · rw [cmp21_lt h]; simp; omega
  · subst h; rw [cmp21_eq]; simp
  · rw [cmp21_gt h]; simp [h]
theorem An.same {a b : An} (ha : a.Ok) (hb : b.Ok) (h1 : ¬ a.n * b.d < b.n * a.d) (h2 : ¬ b.n * a.d < a.n * b.d) : a = b := by
  have hc := cross ha.le.2.2 hb.le.2.2 ha.2.2 hb.2.2 (show a.n * b.d = b.n * a.d by omega)
  cases a; cases b
  simp only [An.mk.injEq]
  exact hc

set_option maxRecDepth 100000 in
theorem run_p_eql (n d m e : Nat) (p q : Operand) (w : World) : (do eqGuard .eql 93 p q (.agg #[.int .u64 (n : Nat), .int .u64 (d : Nat)]) (.agg #[.int .u64 (m : Nat), .int .u64 (e : Nat)]); binOp .eql 93 (.agg #[.int .u64 (n : Nat), .int .u64 (d : Nat)]) (.agg #[.int .u64 (m : Nat), .int .u64 (e : Nat)])).run Try.prog w = .ok (.bool (decide (n = m ∧ d = e))) w := by
  by_cases h1 : n = m <;> by_cases h2 : d = e <;> go_simp
  all_goals (try simp [h1, h2])
  all_goals (try omega)
theorem optp_eql_i [Env] {A B : AV} {a b : An} {c : Bool} (ha : gval A = .agg #[.int .u64 (a.n : Nat), .int .u64 (a.d : Nat)]) (hb : gval B = .agg #[.int .u64 (b.n : Nat), .int .u64 (b.d : Nat)]) (h : c = true ↔ a = b) : OpT Try.prog [0, 11, 93] [A, B] (.lit (.bool c)) :=
  opt_bin (op := .eql) (r := .lit (.bool c)) rfl fun p q w => by
    rw [ha, hb, run_p_eql]
    have : decide (a.n = b.n ∧ a.d = b.d) = c := by
      rw [Bool.eq_iff_iff, h, decide_eq_true_iff]
      cases a; cases b; simp
    rw [this]; rfl

set_option maxRecDepth 100000 in
theorem run_p_neq (n d m e : Nat) (p q : Operand) (w : World) : (do eqGuard .neq 93 p q (.agg #[.int .u64 (n : Nat), .int .u64 (d : Nat)]) (.agg #[.int .u64 (m : Nat), .int .u64 (e : Nat)]); binOp .neq 93 (.agg #[.int .u64 (n : Nat), .int .u64 (d : Nat)]) (.agg #[.int .u64 (m : Nat), .int .u64 (e : Nat)])).run Try.prog w = .ok (.bool (!decide (n = m ∧ d = e))) w := by
  by_cases h1 : n = m <;> by_cases h2 : d = e <;> go_simp
  all_goals (try simp [h1, h2])
  all_goals (try omega)
theorem optp_neq_i [Env] {A B : AV} {a b : An} {c : Bool} (ha : gval A = .agg #[.int .u64 (a.n : Nat), .int .u64 (a.d : Nat)]) (hb : gval B = .agg #[.int .u64 (b.n : Nat), .int .u64 (b.d : Nat)]) (h : c = true ↔ a = b) : OpT Try.prog [0, 12, 93] [A, B] (.lit (.bool (!c))) :=
  opt_bin (op := .neq) (r := .lit (.bool (!c))) rfl fun p q w => by
    rw [ha, hb, run_p_neq]
    have : decide (a.n = b.n ∧ a.d = b.d) = c := by
      rw [Bool.eq_iff_iff, h, decide_eq_true_iff]
      cases a; cases b; simp
    rw [this]; rfl

set_option maxRecDepth 100000 in
theorem run_a_eql (n d m e : Nat) (p q : Operand) (w : World) : (do eqGuard .eql 30 p q (.agg #[.int .u64 (n : Nat), .int .u64 (d : Nat)]) (.agg #[.int .u64 (m : Nat), .int .u64 (e : Nat)]); binOp .eql 30 (.agg #[.int .u64 (n : Nat), .int .u64 (d : Nat)]) (.agg #[.int .u64 (m : Nat), .int .u64 (e : Nat)])).run Try.prog w = .ok (.bool (decide (n = m ∧ d = e))) w := by
  by_cases h1 : n = m <;> by_cases h2 : d = e <;> go_simp
  all_goals (try simp [h1, h2])
  all_goals (try omega)
theorem opta_eql_i [Env] {A B : AV} {a b : An} {c : Bool} (ha : gval A = .agg #[.int .u64 (a.n : Nat), .int .u64 (a.d : Nat)]) (hb : gval B = .agg #[.int .u64 (b.n : Nat), .int .u64 (b.d : Nat)]) (h : c = true ↔ a = b) : OpT Try.prog [0, 11, 30] [A, B] (.lit (.bool c)) :=
  opt_bin (op := .eql) (r := .lit (.bool c)) rfl fun p q w => by
    rw [ha, hb, run_a_eql]
    have : decide (a.n = b.n ∧ a.d = b.d) = c := by
      rw [Bool.eq_iff_iff, h, decide_eq_true_iff]
      cases a; cases b; simp
    rw [this]; rfl

set_option maxRecDepth 100000 in
theorem run_a_neq (n d m e : Nat) (p q : Operand) (w : World) : (do eqGuard .neq 30 p q (.agg #[.int .u64 (n : Nat), .int .u64 (d : Nat)]) (.agg #[.int .u64 (m : Nat), .int .u64 (e : Nat)]); binOp .neq 30 (.agg #[.int .u64 (n : Nat), .int .u64 (d : Nat)]) (.agg #[.int .u64 (m : Nat), .int .u64 (e : Nat)])).run Try.prog w = .ok (.bool (!decide (n = m ∧ d = e))) w := by
  by_cases h1 : n = m <;> by_cases h2 : d = e <;> go_simp
  all_goals (try simp [h1, h2])
  all_goals (try omega)
theorem opta_neq_i [Env] {A B : AV} {a b : An} {c : Bool} (ha : gval A = .agg #[.int .u64 (a.n : Nat), .int .u64 (a.d : Nat)]) (hb : gval B = .agg #[.int .u64 (b.n : Nat), .int .u64 (b.d : Nat)]) (h : c = true ↔ a = b) : OpT Try.prog [0, 12, 30] [A, B] (.lit (.bool (!c))) :=
  opt_bin (op := .neq) (r := .lit (.bool (!c))) rfl fun p q w => by
    rw [ha, hb, run_a_neq]
    have : decide (a.n = b.n ∧ a.d = b.d) = c := by
      rw [Bool.eq_iff_iff, h, decide_eq_true_iff]
      cases a; cases b; simp
    rw [this]; rfl

end Go.Proofs.Ytfoldiieclfbgaa
set_option linter.unusedVariables false
set_option linter.unusedSimpArgs false
namespace Go.Proofs.Ytfoldiieclfbgaa
open Go Go.RowKit Nt

theorem order_two (w : World) : Calls Try.prog 56 #[.int .u64 2, .int .u64 3] w fun e w' => e = .returned (.int .i64 2) ∧ Below w.heap.size w w' := by
  have h := Aorder_c 2 3 w (by decide) (by decide) (by decide)
  rwa [ord_two_three] at h

@[reducible] def awake21_c_f : FuncId := 21
@[reducible] def awake21_c_a : List AV := []
@[reducible] noncomputable def awake21_c_k : Know := ⟨[],
  [(56, [.lit (.int .u64 2), .lit (.int .u64 3)], .lit (.int .i64 2))]⟩
theorem awake21_c_r1 : @comes awake21_c_k Try.prog glT 3000 awake21_c_f awake21_c_a = some (.lit (.bool true)) := by kernel_rfl

set_option maxRecDepth 100000 in
set_option maxHeartbeats 4000000 in
theorem awake21_c  (w : World)  : Calls Try.prog 21 #[] w fun e w' => e = .returned (.bool true) ∧ Below w.heap.size w w' := by
  have hG : Globs glT w := glT_all w
  letI : Env := mkEnv glT [] rfl
  have hops : OpsT Try.prog (@Know.ops awake21_c_k) := trivial
  have hcalls : CallsT Try.prog (@Know.calls awake21_c_k) := ⟨callt rfl rfl fun w hG => order_two w,
    trivial⟩
  have fin : ∀ v, @comes awake21_c_k Try.prog glT 3000 awake21_c_f awake21_c_a = some v → ground v = true → Ending.returned (gval v) = .returned (.bool true) → Calls Try.prog 21 #[] w fun e w' => e = .returned (.bool true) ∧ Below w.heap.size w w' := fun v h1 h2 h3 => (@sym_ok _ awake21_c_k _ (@KnowOk.of _ awake21_c_k _ hops hcalls) (by kernel_rfl) _ _ _ _ h1 rfl h2 _ hG).mono fun e w' h => ⟨h.1.trans h3, h.2⟩
  clear hops hcalls
  exact fin _ (awake21_c_r1) rfl rfl

@[reducible] def AngleNames_law_f : FuncId := 13
@[reducible] def AngleNames_law_a : List AV := []
@[reducible] noncomputable def AngleNames_law_k : Know := ⟨[],
  [(56, [.lit (.int .u64 2), .lit (.int .u64 3)], .lit (.int .i64 2))]⟩
theorem AngleNames_law_r1 : @comes AngleNames_law_k Try.prog glT 3000 AngleNames_law_f AngleNames_law_a = some (.lit (.bool true)) := by kernel_rfl

set_option maxRecDepth 100000 in
set_option maxHeartbeats 4000000 in
theorem AngleNames_law  (w : World)  : Calls Try.prog 13 #[] w fun e w' => e = .returned (.bool true) ∧ Below w.heap.size w w' := by
  have hG : Globs glT w := glT_all w
  letI : Env := mkEnv glT [] rfl
  have hops : OpsT Try.prog (@Know.ops AngleNames_law_k) := trivial
  have hcalls : CallsT Try.prog (@Know.calls AngleNames_law_k) := ⟨callt rfl rfl fun w hG => order_two w,
    trivial⟩
  have fin : ∀ v, @comes AngleNames_law_k Try.prog glT 3000 AngleNames_law_f AngleNames_law_a = some v → ground v = true → Ending.returned (gval v) = .returned (.bool true) → Calls Try.prog 13 #[] w fun e w' => e = .returned (.bool true) ∧ Below w.heap.size w w' := fun v h1 h2 h3 => (@sym_ok _ AngleNames_law_k _ (@KnowOk.of _ AngleNames_law_k _ hops hcalls) (by kernel_rfl) _ _ _ _ h1 rfl h2 _ hG).mono fun e w' h => ⟨h.1.trans h3, h.2⟩
  clear hops hcalls
  exact fin _ (AngleNames_law_r1) rfl rfl

end Go.Proofs.Ytfoldiieclfbgaa
