/- Texts put together: Ev8 Ev9 Ev9a Ev9b Ev9c Ev10 Ev11 EvT D6 D20 B4t B6t D5 D60 D61 D23 D21 D7 D22 D24. -/
import Derived.Test.YtjkonfopajihdaaDoorQ3
import Derived.OrdersHeld
import Derived.Test.YtjkonfopajihdaaDoorRows
import Derived.LaidSub
import Derived.Lib.LaidTab
import Derived.Lib.TrailingZeros
import Derived.Test.YtjkonfopajihdaaDoorQ2
import Derived.BigQuiet
import Derived.Deep.RegionHeld3
set_option linter.unusedVariables false
set_option linter.unusedSectionVars false
set_option linter.unusedSimpArgs false
namespace Go.Proofs.YtjkonfopajihdaaDoor
open Go Go.RowKit
variable [Env] [Know]

section
variable {P : Program} {R : Rho}
/-- What a reckoner of calls promises. -/
def CallOk (P : Program) (call : CallE) : Prop := ∀ {floor : Nat} {g : FuncId} {l : List AV} {s : AS} {v : AV} {s' : AS}, call floor g l s = some (v, s') →
  ∀ {R : Rho} {w : World} {base : Nat} {xs : List Value}, Inv R s w floor base → VRels R l xs →
    Calls P g xs.toArray w fun e w' => ∃ R' x, e = .returned x ∧ VRel R' v x ∧ Went R R' s s' w w' floor base
theorem entered_run {g : FuncId} (h : entered P g = true) (xs : Array Value) (w : World) : (callFunc g xs).run P w = .ok (.enter g xs) w := by
  unfold entered at h
  split at h
  · rename_i fn hfn
    simp only [Bool.and_eq_true, Bool.not_eq_true'] at h
    have hb : ¬ fn.body = none := by intro e; rw [e] at h; simp at h
    have h2 : ¬ fn.name = "runtime.NumGoroutine" := by simpa using h.2
    simp [callFunc, hfn, h2, hb]
  · cases h
theorem callOf_ok {f : Fr} {a : Act} {o : Oper} {g : FuncId} {l : List AV} (h : callOf P f o = some (g, l)) (hf : FRel R f a.tmps) :
    ∃ xs, VRels R l xs ∧ ∀ w, (execOp a.eval o).run P w = .ok (.enter g xs.toArray) w := by
  unfold callOf at h
  obtain ⟨dst, op, type, pos, after, guard⟩ := o
  simp only at h
  split at h
  · rename_i x args argTypes
    split at h
    · rename_i g' fa fb hc
      split at h
      · rename_i he
        injection h with h
        injection h with h1 h2
        subst h1 h2
        have r := opnd_ok hf x
        rw [appL_eq, appL_eq]
        unfold calleeOf at hc
        split at hc
        · rename_i g2 p q e1
          injection hc with hc
          injection hc with h1 hc
          injection hc with h2 h3
          subst h1 h2 h3
          rw [e1] at r
          have r := lit_inv r
          rw [mapL_eq AV.lit, mapL_eq AV.lit]
          refine ⟨p.toList ++ (args.toList.map a.eval ++ q.toList), (VRels.lits_ _).append ((mapEval hf _).append (VRels.lits_ _)), fun w => ?_⟩
          simp only [execOp, resolve, r, Deferred.ofValue, Sem.run_bind, Sem.run_pure, Result.andThen_ok, invoke, entered_run he]
          congr 2
          apply Array.ext'
          simp
        · rename_i g2 p q e1
          injection hc with hc
          injection hc with h1 hc
          injection hc with h2 h3
          subst h1 h2 h3
          rw [e1] at r
          simp only [VRel] at r
          obtain ⟨as1, bs, r1, r2, r3⟩ := r
          refine ⟨as1 ++ (args.toList.map a.eval ++ bs), r1.append ((mapEval hf _).append r2), fun w => ?_⟩
          simp only [execOp, resolve, r3, Deferred.ofValue, Sem.run_bind, Sem.run_pure, Result.andThen_ok, invoke, entered_run he]
          congr 2
          apply Array.ext'
          simp
        · cases hc
      · cases h
    · cases h
  · rename_i x name args argTypes
    unfold methodOf at h
    split at h
    · rename_i t v e
      split at h
      · rename_i g' r hm
        split at h
        · rename_i he
          injection h with h
          injection h with h1 h2
          subst h1 h2
          have r0 := opnd_ok hf x
          rw [e] at r0
          have r0 := lit_inv r0
          refine ⟨r :: args.toList.map a.eval, VRels.cons (VRel.lit_ _) (mapEval hf _), fun w => ?_⟩
          have hrun := runPure_ok hm w
          have hx : (#[Value.iface t v] ++ args.map a.eval).extract 1 (#[Value.iface t v] ++ args.map a.eval).size = args.map a.eval := by
            apply Array.ext'
            simp [List.take_of_length_le]
          have h0 : (#[Value.iface t v] ++ args.map a.eval)[0]? = some (.iface t v) := by rw [Array.getElem?_append_left (by simp)]; rfl
          simp only [execOp, resolve, r0, invoke, Sem.run_bind, Sem.run_pure, Result.andThen_ok, h0, hx, callMethod]
          have hp : ∀ w, Sem.run P program w = Result.ok P w := fun _ => rfl
          simp only [hp, Result.andThen_ok, hrun, entered_run he]
          congr 2
          apply Array.ext'
          simp
        · cases h
      · cases h
    · cases h
  · cases h
theorem putA_ok {f : Fr} {a : Act} (hf : FRel R f a.tmps) (d : Option Tmp) {v : AV} {x : Value} (h : VRel R v x) : FRel R (putA f d v) (a.put d x).tmps := by
  cases d with
  | none => exact hf
  | some d => exact hf.set d h
theorem put_defers (a : Act) (d : Option Tmp) (x : Value) : (a.put d x).defers = a.defers := by cases d <;> rfl
theorem yielded_ok {f : Fr} {a : Act} (hf : FRel R f a.tmps) (ops : Array Oper) (j : Nat) (hs : symAt ops f j = false) : yieldedA ops f j = yielded ops a.tmps j := by
  unfold symAt at hs
  unfold yieldedA yielded
  cases hd : (ops[j]?).bind (·.dst) with
  | none => simp
  | some d =>
    rw [hd] at hs
    simp only [Option.bind_some]
    have hg := hf.get d
    have hx : ∀ x, a.tmps.getD d undef = x → (∀ b, x ≠ .bool b) → (match a.tmps[d]? with | some (.bool b) => some b | _ => none) = (none : Option Bool) := by
      intro x hx hn
      rw [Array.getD_eq_getD_getElem?] at hx
      cases hv : a.tmps[d]? with
      | none => rfl
      | some y =>
        rw [hv] at hx
        have hx : y = x := hx
        subst hx
        cases y <;> first | rfl | exact absurd rfl (hn _)
    cases hv : getF f d with
    | lit u =>
      rw [hv] at hg
      have e := lit_inv hg
      by_cases hb : ∃ b, u = .bool b
      · obtain ⟨b, rfl⟩ := hb
        have : a.tmps[d]? = some (.bool b) := by
          rw [Array.getD_eq_getD_getElem?] at e
          cases hv2 : a.tmps[d]? with
          | none => rw [hv2] at e; cases e
          | some y => rw [hv2] at e; exact congrArg some e
        rw [this]
      · have h9 := hx _ e (fun b c => hb ⟨b, c⟩)
        cases u <;> first | exact absurd ⟨_, rfl⟩ hb | exact h9.symm
    | ptr k off => rw [hv] at hg; obtain ⟨_, _, _, e⟩ := ptr_inv hg; exact (hx _ e (fun b c => by cases c)).symm
    | sl k off len c sz => rw [hv] at hg; obtain ⟨_, _, _, _, e, _⟩ := sl_inv hg; exact (hx _ e (fun b c => by cases c)).symm
    | emp => rw [hv] at hg; simp only [VRel] at hg; obtain ⟨_, _, e⟩ := hg; exact (hx _ e (fun b c => by cases c)).symm
    | agg vs => rw [hv] at hg; simp only [VRel] at hg; obtain ⟨_, _, e⟩ := hg; exact (hx _ e (fun b c => by cases c)).symm
    | tup vs => rw [hv] at hg; simp only [VRel] at hg; obtain ⟨_, _, e⟩ := hg; exact (hx _ e (fun b c => by cases c)).symm
    | ifc t v => rw [hv] at hg; simp only [VRel] at hg; obtain ⟨_, _, e⟩ := hg; exact (hx _ e (fun b c => by cases c)).symm
    | fn g p q => rw [hv] at hg; simp only [VRel] at hg; obtain ⟨_, _, _, _, e⟩ := hg; exact (hx _ e (fun b c => by cases c)).symm
    | sym i => simp only [hv] at hs; cases hs
    | row n o l => rw [hv] at hg; simp only [VRel] at hg
theorem wantA_ok {f : Fr} {a : Act} (hf : FRel R f a.tmps) {ops : Array Oper} {o : Oper} {b : Bool} (h : wantA ops f o = some b) : Region.wanted o (yielded ops a.tmps) = b := by
  unfold wantA at h
  unfold Region.wanted
  split at h
  · rename_i hg
    rw [hg]
    injection h
  · rename_i j c hg
    rw [hg]
    split at h
    · cases h
    · rename_i hs
      injection h with h
      rw [← h, yielded_ok hf ops j hs]
/-- One operation, carried out. -/
theorem evalOp_ok (hK : KnowOk P) {call : CallE} (hcall : CallOk P call) {fl base : Nat} {s s' : AS} {w : World} (hI : Inv R s w fl base) {f : Fr} {a : Act} {o : Oper} (hf : FRel R f a.tmps) {v : AV}
    (h : evalOp P call fl f o s = some (v, s')) {next : Act → World → Prop} {Q : Exit → Act → World → Prop}
    (hn : ∀ R' x w', VRel R' v x → Went R R' s s' w w' fl base → next (a.put o.dst x) w') :
    o.wp P a w next Q := by
  rw [evalOp_eq] at h
  unfold evalOp0 at h
  unfold Oper.wp
  split at h
  · rename_i g l hc
    obtain ⟨xs, h1, h2⟩ := callOf_ok hc hf
    rw [h2 w, Oper.upon_enter]
    refine (hcall h hI h1).mono fun e w' ⟨R', x, he, hx, hw⟩ => ?_
    subst he
    exact hn R' x w' hx hw
  · rename_i hc
    split at h
    · rename_i r hr
      injection h with h
      subst h
      obtain ⟨nx, x, w', R', q1, q2, q3, q4⟩ := evalMem_ok (P := P) hI hf hr
      rw [q1]
      have := hn R' x w' q3 q4
      rcases q2 with rfl | ⟨rfl, rfl⟩
      · exact this
      · exact this
    · split at h
      · rename_i u hu
        injection h with h
        injection h with h1 h2
        subst h1 h2
        obtain ⟨x, hx, hrun⟩ := evalWl_ok hK hu hf
        rw [hrun w]
        exact hn R x w hx (Went.refl hI)
      · cases h
/-- One behind the other. -/
theorem evalSeq_ok (hK : KnowOk P) {call : CallE} (hcall : CallOk P call) {floor base : Nat} {ops : Array Oper} {Q : Exit → Act → World → Prop} : ∀ (l : List Oper) {R : Rho} {f f' : Fr} {s s' : AS} {a : Act} {w : World},
    evalSeq P call floor ops l f s = some (f', s') → Inv R s w floor base → FRel R f a.tmps →
    (∀ R' a' w', Went R R' s s' w w' floor base → FRel R' f' a'.tmps → a'.defers = a.defers → Q .normal a' w') → wpList P ops Q l a w
  | [], R, f, f', s, s', a, w, h, hI, hf, hQ => by
    have h' : some (f, s) = some (f', s') := h
    injection h' with h'
    injection h' with h1 h2
    subst h1 h2
    exact hQ R a w (Went.refl hI) hf rfl
  | o :: l, R, f, f', s, s', a, w, h, hI, hf, hQ => by
    have h' : (match wantA ops f o with
      | some true => match evalOp P call floor f o s with
        | some (v, s') => evalSeq P call floor ops l (putA f o.dst v) s'
        | none => none
      | some false => evalSeq P call floor ops l (putA f o.dst (.lit undef)) s
      | none => none) = some (f', s') := h
    unfold wpList
    split at h'
    · rename_i hw
      have hw := wantA_ok hf hw
      rw [if_pos hw]
      left
      split at h'
      · rename_i v s1 he
        refine evalOp_ok hK hcall hI hf he fun R' x w' hx hg => ?_
        refine evalSeq_ok hK hcall l h' hg.inv (putA_ok (hf.ext hg.ext) o.dst hx) fun R'' a'' w'' hg2 hf2 hd => hQ R'' a'' w'' (hg.trans hg2) hf2 (hd.trans (put_defers _ _ _))
      · cases h'
    · rename_i hw
      have hw := wantA_ok hf hw
      rw [if_neg (by simp [hw])]
      exact evalSeq_ok hK hcall l h' hI (putA_ok hf o.dst (VRel.lit_ _)) fun R'' a'' w'' hg2 hf2 hd => hQ R'' a'' w'' hg2 hf2 (hd.trans (put_defers _ _ _))
    · cases h'
end
end Go.Proofs.YtjkonfopajihdaaDoor
set_option linter.unusedVariables false
set_option linter.unusedSimpArgs false
namespace Go.Proofs.YtjkonfopajihdaaDoor
open Go Go.RowKit

/-- One operation waits for another, through whatever others. -/
inductive ReachE (ops : Array Oper) : Nat → Nat → Prop
  | edge {j : Nat} {o : Oper} {e : Edge} : ops[j]? = some o → e ∈ o.after → Region.binds .any e = true → ReachE ops j e.on
  | next {j k : Nat} {o : Oper} {e : Edge} : ReachE ops j k → ops[k]? = some o → e ∈ o.after → Region.binds .any e = true → ReachE ops j e.on
/-- What has come up came up behind all that it waits for. -/
def Down (ops : Array Oper) (listed : Array Bool) : Prop := ∀ j o, ops[j]? = some o → listed.getD j false = true → ∀ e ∈ o.after, Region.binds .any e = true → listed.getD e.on false = true
section
variable {ops : Array Oper}
theorem Down.reach {listed : Array Bool} (h : Down ops listed) {j i : Nat} (hr : ReachE ops j i) (h1 : ∀ o, ops[j]? = some o → ∀ e ∈ o.after, Region.binds .any e = true → listed.getD e.on false = true) : listed.getD i false = true := by
  induction hr with
  | edge ho he hb => exact h1 _ ho _ he hb
  | next _ ho he hb ih => exact h _ _ ho ih _ he hb
theorem Down.of_listed {listed : Array Bool} (h : Down ops listed) {j i : Nat} (hr : ReachE ops j i) (hj : listed.getD j false = true) : listed.getD i false = true :=
  h.reach hr fun o ho e he hb => h j o ho hj e he hb
theorem getD_set_cases {listed : Array Bool} {i j : Nat} (h : (listed.setIfInBounds i true).getD j false = true) : j = i ∨ listed.getD j false = true := by
  by_cases hij : i = j
  · exact .inl hij.symm
  · exact .inr (by rw [getD_set_ne false hij] at h; exact h)
theorem Down.set {listed : Array Bool} (h : Down ops listed) {i : Nat} (hi : i ∈ Region.ready .any ops listed) : Down ops (listed.setIfInBounds i true) := by
  intro j o ho hj e he hb
  rcases getD_set_cases hj with rfl | hj
  · obtain ⟨_, o', ho', hall⟩ := mem_ready.1 hi
    rw [ho] at ho'
    injection ho' with ho'
    subst ho'
    exact getD_set_true (hall e he hb)
  · exact getD_set_true (h j o ho hj e he hb)
theorem getD_tf {listed : Array Bool} {i : Nat} (h : listed.getD i true = false) : listed.getD i false = false := by
  rcases Nat.lt_or_ge i listed.size with h' | h'
  · simp [h'] at h ⊢; exact h
  · simp [Array.getElem?_eq_none h'] at h
/-- How many have not come up. -/
def cnt (listed : Array Bool) : Nat := listed.toList.count false
theorem cnt_set {listed : Array Bool} {i : Nat} (h : listed.getD i true = false) : cnt (listed.setIfInBounds i true) + 1 = cnt listed := by
  have hi : i < listed.size := by
    rcases Nat.lt_or_ge i listed.size with h' | h'
    · exact h'
    · simp [Array.getElem?_eq_none h'] at h
  have hv : listed[i] = false := by simpa [hi] using h
  unfold cnt
  rw [Array.toList_setIfInBounds]
  have hi' : i < listed.toList.length := by simpa using hi
  have e := List.count_set (a := true) (b := false) hi'
  have hg : listed.toList[i] = false := by simpa using hv
  have hpos : 0 < listed.toList.count false := List.count_pos_iff.2 (by rw [← hg]; exact List.getElem_mem hi')
  have e1 : (if (listed.toList[i] == false) = true then 1 else 0) = 1 := by rw [hg]; rfl
  have e2 : (if (true == false) = true then 1 else 0) = 0 := rfl
  rw [e, e1, e2]
  omega
theorem cnt_pos {listed : Array Bool} {i : Nat} (h : listed.getD i true = false) : 0 < cnt listed := by have := cnt_set h; omega
end
/-- A state that an operation may still meet. -/
def Si (ops : Array Oper) (S : Array Bool → World → Prop) (i : Nat) (w : World) : Prop := ∃ L, Down ops L ∧ L.getD i true = false ∧ S L w
/-- Whatever order is picked from here on. -/
def wpAnyU (P : Program) (ops : Array Oper) (Q : Exit → Act → World → Prop) (S : Array Bool → World → Prop) : Nat → Array Bool → Act → World → Prop
  | 0, listed, a, w => Region.ready .any ops listed = [] ∧ Q .normal a w
  | fuel + 1, listed, a, w => (Region.ready .any ops listed = [] → Q .normal a w) ∧
    ∀ i ∈ Region.ready .any ops listed, wpOp P ops Q i (fun a' w' => S (listed.setIfInBounds i true) w' ∧ wpAnyU P ops Q S fuel (listed.setIfInBounds i true) a' w') a w
section
variable {P : Program} {ops : Array Oper} {Q : Exit → Act → World → Prop} {S : Array Bool → World → Prop}
theorem wpAny_of_U : ∀ (fuel : Nat) {listed : Array Bool} {a : Act} {w : World}, wpAnyU P ops Q S fuel listed a w → wpAny P .any ops Q fuel listed a w
  | 0, _, _, _, h => h
  | fuel + 1, _, _, _, h => ⟨h.1, fun i hi => wpOp_mono (fun a' w' h' => wpAny_of_U fuel h'.2) (h.2 i hi)⟩
theorem wpAnyU_done {listed : Array Bool} {a : Act} {w : World} (hr : Region.ready .any ops listed = []) (h : Q .normal a w) : ∀ fuel, wpAnyU P ops Q S fuel listed a w
  | 0 => ⟨hr, h⟩
  | _ + 1 => ⟨fun _ => h, by rw [hr]; simp⟩
theorem wpAnyU_first (hns : Region.noSelect ops = true) (hmono : ∀ L i w, S L w → S (L.setIfInBounds i true) w) (hQ : ∀ c a w, ¬ Q (.panic c) a w) {i : Nat} {oi : Oper} {v : Value} (hi : ops[i]? = some oi) :
    ∀ (fuel : Nat) (listed : Array Bool) (a : Act) (w : World),
      (∀ j oj, ops[j]? = some oj → j ≠ i → listed.getD j true = false → (∀ e ∈ oj.after, Region.binds .any e = true → e.on ≠ i) → oi.apart ops oj = true) →
      (∀ L w, S (L.setIfInBounds i true) w → S L w) → i ∈ Region.ready .any ops listed → Down ops listed → YieldsIf P ops (Si ops S i) oi v a → S listed w →
      wpAnyU P ops Q S fuel (listed.setIfInBounds i true) (a.put oi.dst v) w → wpAnyU P ops Q S (fuel + 1) listed a w := by
  have hsel := Region.noSelect_spec hns
  have hin : i < ops.size := (Array.getElem?_eq_some_iff.1 hi).1
  intro fuel
  induction fuel with
  | zero =>
    intro listed a w _ hin2 hr hd hy hS H
    have hun := (mem_ready.1 hr).1
    refine ⟨fun h => (by rw [h] at hr; cases hr), fun j hj => ?_⟩
    by_cases hji : j = i
    · subst hji; exact hy.wpOp hi ⟨listed, hd, hun, hS⟩ ⟨hmono _ _ _ hS, H⟩
    · have := ready_mono hj hji
      rw [H.1] at this
      cases this
  | succ fuel ih =>
    intro listed a w hfree hin2 hr hd hy hS H
    have hun := (mem_ready.1 hr).1
    refine ⟨fun h => (by rw [h] at hr; cases hr), fun j hj => ?_⟩
    by_cases hji : j = i
    · subst hji; exact hy.wpOp hi ⟨listed, hd, hun, hS⟩ ⟨hmono _ _ _ hS, H⟩
    · have h1 := H.2 j (ready_mono hj hji)
      obtain ⟨hjun, oj, hoj, hall⟩ := mem_ready.1 hj
      have hnot : ∀ e ∈ oj.after, Region.binds .any e = true → e.on ≠ i := fun e he hb heq => by
        have h1 := hall e he hb
        rw [heq, getD_tf hun] at h1
        cases h1
      have h2 := wpOp_putIf hoj (hfree j oj hoj hji hjun hnot) (fun cs b => hsel i oi cs b hi) (fun cs b => hsel j oj cs b hoj) (fun c a w h => absurd h (hQ _ _ _)) hy h1
      have hun2 : (listed.setIfInBounds j true).getD i true = false := by rw [getD_set_ne true hji]; exact hun
      refine wpOp_mono (fun a' w' h3 => ?_) h2
      obtain ⟨hy', hS', H'⟩ := h3
      rw [Array.setIfInBounds_comm _ _ (Ne.symm hji)] at hS' H'
      have hS2 := hin2 _ _ hS'
      refine ⟨hS2, ih (listed.setIfInBounds j true) a' w' (fun k ok hk hki hun3 hno => hfree k ok hk hki ?_ hno) hin2 (ready_mono hr (Ne.symm hji)) (hd.set hj) hy' hS2 H'⟩
      by_cases hjk : j = k
      · subst hjk; exact hjun
      · rw [getD_set_ne true hjk] at hun3; exact hun3
theorem wpAnyU_take (hns : Region.noSelect ops = true) (hmono : ∀ L i w, S L w → S (L.setIfInBounds i true) w) (hQ : ∀ c a w, ¬ Q (.panic c) a w) {i : Nat} {oi : Oper} {v : Value} {fuel : Nat} {listed : Array Bool} {a : Act} {w : World} (hi : ops[i]? = some oi)
    (hf : Region.free .any ops listed i = true) (hin2 : ∀ L w, S (L.setIfInBounds i true) w → S L w) (hr : i ∈ Region.ready .any ops listed) (hd : Down ops listed) (hy : YieldsIf P ops (Si ops S i) oi v a) (hS : S listed w)
    (h : wpAnyU P ops Q S fuel (listed.setIfInBounds i true) (a.put oi.dst v) w) : wpAnyU P ops Q S (fuel + 1) listed a w :=
  wpAnyU_first hns hmono hQ hi fuel listed a w (Region.free_spec hi hf) hin2 hr hd hy hS h
end
end Go.Proofs.YtjkonfopajihdaaDoor
set_option linter.unusedVariables false
set_option linter.unusedSectionVars false
set_option linter.unusedSimpArgs false
namespace Go.Proofs.YtjkonfopajihdaaDoor
open Go Go.RowKit
variable [Env] [Know]

theorem testBit_or_pow (m i j : Nat) : (m ||| 2 ^ i).testBit j = (m.testBit j || decide (i = j)) := by
  rw [Nat.testBit_or, Nat.testBit_two_pow]
theorem depM_bit (o : Oper) (j : Nat) : (depM o).testBit j = true ↔ ∃ e ∈ o.after, Region.binds .any e = true ∧ e.on = j := by
  have key : ∀ l : List Edge, (l.foldr (fun e m => if Region.binds .any e then m ||| (2 ^ e.on) else m) 0).testBit j = true ↔ ∃ e ∈ l, Region.binds .any e = true ∧ e.on = j := by
    intro l
    induction l with
    | nil => simp
    | cons e l ih =>
      rw [List.foldr_cons]
      by_cases hb : Region.binds .any e = true
      · rw [if_pos hb, testBit_or_pow]
        simp only [Bool.or_eq_true, ih, decide_eq_true_eq, List.mem_cons]
        constructor
        · rintro (⟨x, hx, h⟩ | h)
          · exact ⟨x, .inr hx, h⟩
          · exact ⟨e, .inl rfl, hb, h⟩
        · rintro ⟨x, rfl | hx, h1, h2⟩
          · exact .inr h2
          · exact .inl ⟨x, hx, h1, h2⟩
      · rw [if_neg hb, ih]
        constructor
        · rintro ⟨x, hx, h⟩; exact ⟨x, List.mem_cons_of_mem _ hx, h⟩
        · rintro ⟨x, hx, h1, h2⟩
          rcases List.mem_cons.1 hx with rfl | hx
          · exact absurd h1 hb
          · exact ⟨x, hx, h1, h2⟩
  unfold depM
  rw [key]
  simp
theorem lookM_bit (ops : Array Oper) (o : Oper) (t : Nat) : (lookM ops o).testBit t = true ↔ t ∈ o.looksAt ops := by
  unfold lookM
  generalize o.looksAt ops = l
  induction l with
  | nil => simp
  | cons e l ih =>
    rw [List.foldr_cons, testBit_or_pow]
    simp only [Bool.or_eq_true, ih, decide_eq_true_eq, List.mem_cons]
    constructor
    · rintro (h | h)
      · exact .inr h
      · exact .inl h.symm
    · rintro (h | h)
      · exact .inr h.symm
      · exact .inl h
theorem recs_map (ops : Array Oper) : ∀ (l : List Oper) (k : Nat), (recs ops l k).map (·.i) = List.range' k l.length
  | [], k => rfl
  | o :: l, k => by simp [recs, recs_map ops l (k + 1), List.range'_succ]
theorem recs_mem (ops : Array Oper) (l : List Oper) : ∀ (k : Nat) (r : Rec), r ∈ recs ops l k → ∃ j, l[j]? = some r.o ∧ r.i = k + j ∧ r.deps = depM r.o ∧ r.looks = lookM ops r.o := by
  induction l with
  | nil => intro k r h; cases h
  | cons o l ih =>
    intro k r h
    unfold recs at h
    rcases List.mem_cons.1 h with h | h
    · refine ⟨0, ?_, ?_, ?_, ?_⟩ <;> rw [h] <;> simp
    · obtain ⟨j, h1, h2, h3⟩ := ih (k + 1) r h
      exact ⟨j + 1, by simpa using h1, by omega, h3⟩
/-- All the operations. -/
noncomputable def allR (ops : Array Oper) : List Rec := recs ops ops.toList 0
theorem allR_map (ops : Array Oper) : (allR ops).map (·.i) = List.range ops.size := by
  unfold allR; rw [recs_map, List.range_eq_range']; simp
theorem allR_mem {ops : Array Oper} {r : Rec} (h : r ∈ allR ops) : ops[r.i]? = some r.o ∧ r.deps = depM r.o ∧ r.looks = lookM ops r.o := by
  obtain ⟨j, h1, h2, h3⟩ := recs_mem ops ops.toList 0 r h
  refine ⟨?_, h3⟩
  rw [h2, Nat.zero_add, ← Array.getElem?_toList]
  exact h1
theorem allR_ex {ops : Array Oper} {i : Nat} (h : i < ops.size) : ∃ r ∈ allR ops, r.i = i := by
  have : i ∈ (allR ops).map (·.i) := by rw [allR_map]; exact List.mem_range.2 h
  obtain ⟨r, h1, h2⟩ := List.mem_map.1 this
  exact ⟨r, h1, h2⟩
theorem allR_inj {ops : Array Oper} {r q : Rec} (h : r ∈ allR ops) (h' : q ∈ allR ops) (e : r.i = q.i) : r = q := by
  obtain ⟨h1, h2, h3⟩ := allR_mem h
  obtain ⟨g1, g2, g3⟩ := allR_mem h'
  rw [e, g1] at h1
  injection h1 with h1
  obtain ⟨i, o, d, l⟩ := r
  obtain ⟨i', o', d', l'⟩ := q
  simp only at *
  subst h1 e
  rw [h2, g2, h3, g3]
theorem stepM_bit {c x : Nat} : ∀ {l : List Rec}, (stepM c l).testBit x = true → c.testBit x = true ∨ ∃ r ∈ l, c.testBit r.i = true ∧ r.deps.testBit x = true
  | [], h => .inl h
  | r :: l, h => by
    have h' : (Bool.rec (stepM c l) (stepM c l ||| r.deps) (c.testBit r.i) : Nat).testBit x = true := h
    cases hb : c.testBit r.i with
    | false =>
      rw [hb] at h'
      rcases stepM_bit h' with h1 | ⟨q, hq, h1⟩
      · exact .inl h1
      · exact .inr ⟨q, List.mem_cons_of_mem _ hq, h1⟩
    | true =>
      rw [hb] at h'
      rw [Nat.testBit_or, Bool.or_eq_true] at h'
      rcases h' with h' | h'
      · rcases stepM_bit h' with h1 | ⟨q, hq, h1⟩
        · exact .inl h1
        · exact .inr ⟨q, List.mem_cons_of_mem _ hq, h1⟩
      · exact .inr ⟨r, List.mem_cons_self, hb, h'⟩
theorem closM_ok {ops : Array Oper} {j : Nat} : ∀ (n : Nat) {m : Nat}, (∀ x, m.testBit x = true → ReachE ops j x) → ∀ x, (closM (allR ops) n m).testBit x = true → ReachE ops j x
  | 0, m, h, x, hx => h x hx
  | n + 1, m, h, x, hx => by
    have hx' : (stepM (closM (allR ops) n m) (allR ops)).testBit x = true := hx
    rcases stepM_bit hx' with h1 | ⟨r, hr, h1, h2⟩
    · exact closM_ok n h x h1
    · have h3 := closM_ok n h r.i h1
      obtain ⟨g1, g2, _⟩ := allR_mem hr
      rw [g2, depM_bit] at h2
      obtain ⟨e, he, hb, rfl⟩ := h2
      exact .next h3 g1 he hb
theorem waitsR_ok {ops : Array Oper} {q : Rec} {i : Nat} (hq : ops[q.i]? = some q.o) (hd : q.deps = depM q.o) (h : waitsR (allR ops) q i = true) : ReachE ops q.i i := by
  have base : ∀ x, q.deps.testBit x = true → ReachE ops q.i x := by
    intro x hx
    rw [hd, depM_bit] at hx
    obtain ⟨e, he, hb, rfl⟩ := hx
    exact .edge hq he hb
  unfold waitsR at h
  rw [Bool.or_eq_true] at h
  rcases h with h | h
  · exact base i h
  · exact closM_ok 8 base i h
theorem hasK_false {l : List (Nat × Nat)} {k : Nat} (h : hasK l k = false) : ∀ p ∈ l, p.2 ≠ k := by
  induction l with
  | nil => simp
  | cons a l ih =>
    have h' : (Bool.rec (hasK l k) true (Nat.beq a.2 k) : Bool) = false := h
    cases hb : Nat.beq a.2 k with
    | true => rw [hb] at h'; cases h'
    | false =>
      rw [hb] at h'
      intro p hp
      rcases List.mem_cons.1 hp with rfl | hp
      · exact Nat.ne_of_beq_eq_false hb
      · exact ih h' p hp
theorem waitsAll_ok {ops : Array Oper} {i : Nat} {ws : List Nat} {kl : List (Nat × Nat)} (h : waitsAll ops i ws kl = true) : ∀ q ∈ kl, q.2 ∈ ws → ReachE ops i q.1 := by
  intro q hq hk
  unfold waitsAll at h
  rw [allL_eq, List.all_eq_true] at h
  have := h q hq
  simp only [Bool.or_eq_true, Bool.not_eq_true'] at this
  rcases this with h1 | h1
  · rw [hasN_iff.2 hk] at h1; cases h1
  · split at h1
    · rename_i o ho
      exact waitsR_ok (q := ⟨i, o, depM o, 0⟩) ho rfl h1
    · cases h1
end Go.Proofs.YtjkonfopajihdaaDoor
set_option linter.unusedVariables false
set_option linter.unusedSectionVars false
set_option linter.unusedSimpArgs false
namespace Go.Proofs.YtjkonfopajihdaaDoor
open Go Go.RowKit
variable [Env] [Know]

/-- A cell made ahead of the plan. -/
structure Tk where
  i : Nat
  d : Tmp
  b : Nat
  ty : TypeId
  C : Array Value
def Tk.p (t : Tk) : Value := .pointer (some ⟨t.b, 0, none⟩)
def putT : List Tk → Act → Act
  | [], a => a
  | t :: T, a => (putT T a).put (some t.d) t.p
def setT : List Tk → Array Bool → Array Bool
  | [], l => l
  | t :: T, l => (setT T l).setIfInBounds t.i true
theorem putT_put : ∀ (T : List Tk) (a : Act) (y : Option Tmp) (u : Value), (∀ t ∈ T, y ≠ some t.d) → putT T (a.put y u) = (putT T a).put y u
  | [], _, _, _, _ => rfl
  | t :: T, a, y, u, h => by
    show (putT T (a.put y u)).put (some t.d) t.p = ((putT T a).put (some t.d) t.p).put y u
    rw [putT_put T a y u (fun t' ht => h t' (List.mem_cons_of_mem _ ht))]
    exact Act.put_comm _ _ _ (fun d hd e => h t List.mem_cons_self (hd.trans e.symm))
theorem putT_defers : ∀ (T : List Tk) (a : Act), (putT T a).defers = a.defers
  | [], _ => rfl
  | t :: T, a => putT_defers T a
theorem setT_set : ∀ (T : List Tk) (L : Array Bool) (i : Nat), setT T (L.setIfInBounds i true) = (setT T L).setIfInBounds i true
  | [], _, _ => rfl
  | t :: T, L, i => by
    show (setT T (L.setIfInBounds i true)).setIfInBounds t.i true = ((setT T L).setIfInBounds t.i true).setIfInBounds i true
    rw [setT_set T L i]
    by_cases h : t.i = i
    · rw [h]
    · exact Array.setIfInBounds_comm _ _ (fun e => h e.symm)
theorem setT_in : ∀ {T : List Tk} {L : Array Bool} {j : Nat}, (setT T L).getD j false = true → L.getD j false = true ∨ ∃ t ∈ T, t.i = j
  | [], _, _, h => .inl h
  | t :: T, L, j, h => by
    rcases getD_set_cases (show ((setT T L).setIfInBounds t.i true).getD j false = true from h) with h1 | h1
    · exact .inr ⟨t, List.mem_cons_self, h1.symm⟩
    · rcases setT_in h1 with h2 | ⟨t', ht, h2⟩
      · exact .inl h2
      · exact .inr ⟨t', List.mem_cons_of_mem _ ht, h2⟩
theorem setT_up : ∀ {T : List Tk} {L : Array Bool} {j : Nat}, L.getD j false = true → (setT T L).getD j false = true
  | [], _, _, h => h
  | t :: T, L, j, h => getD_set_true (setT_up h)
theorem setT_ne : ∀ {T : List Tk} {L : Array Bool} {j : Nat} (d : Bool), (∀ t ∈ T, t.i ≠ j) → (setT T L).getD j d = L.getD j d
  | [], _, _, _, _ => rfl
  | t :: T, L, j, d, h => by
    show ((setT T L).setIfInBounds t.i true).getD j d = _
    rw [getD_set_ne d (h t List.mem_cons_self), setT_ne d (fun t' ht => h t' (List.mem_cons_of_mem _ ht))]
theorem setT_un : ∀ {T : List Tk} {L : Array Bool} {j : Nat}, (setT T L).getD j true = false → L.getD j true = false ∧ ∀ t ∈ T, t.i ≠ j
  | [], _, _, h => ⟨h, fun _ h => by cases h⟩
  | t :: T, L, j, h => by
    have h : ((setT T L).setIfInBounds t.i true).getD j true = false := h
    by_cases hj : t.i = j
    · subst hj
      exfalso
      rcases Nat.lt_or_ge t.i (setT T L).size with h' | h'
      · simp [Array.getD, h'] at h
      · simp [Array.getD, Nat.not_lt.2 h'] at h
    · rw [getD_set_ne true hj] at h
      obtain ⟨h1, h2⟩ := setT_un h
      refine ⟨h1, fun t' ht => ?_⟩
      rcases List.mem_cons.1 ht with rfl | ht
      · exact hj
      · exact h2 t' ht
theorem setT_size : ∀ (T : List Tk) (L : Array Bool), (setT T L).size = L.size
  | [], _ => rfl
  | t :: T, L => by show ((setT T L).setIfInBounds t.i true).size = _; rw [Array.size_setIfInBounds]; exact setT_size T L
/-- One is taken out of the list. -/
theorem setT_out : ∀ (T1 : List Tk) {T2 : List Tk} {t : Tk} (L : Array Bool), setT (T1 ++ t :: T2) L = setT (T1 ++ T2) (L.setIfInBounds t.i true)
  | [], T2, t, L => (setT_set T2 L t.i).symm
  | u :: T1, T2, t, L => congrArg (·.setIfInBounds u.i true) (setT_out T1 L)
theorem putT_out : ∀ (T1 : List Tk) {T2 : List Tk} {t : Tk} (a : Act), (∀ u ∈ T2, t.d ≠ u.d) → putT (T1 ++ t :: T2) a = putT (T1 ++ T2) (a.put (some t.d) t.p)
  | [], T2, t, a, h => (putT_put T2 a (some t.d) t.p (fun u hu e => h u hu (Option.some.inj e))).symm
  | u :: T1, T2, t, a, h => congrArg (·.put (some u.d) u.p) (putT_out T1 a h)
section
variable {P : Program} {ops : Array Oper} {Q : Exit → Act → World → Prop}
theorem wpOp_unput (hQ : ∀ c a w, ¬ Q (.panic c) a w) {j : Nat} {oj : Oper} {d : Tmp} {v : Value} (hj : ops[j]? = some oj) (hsj : ∀ cs b, oj.op ≠ .select cs b) (h1 : d ∉ oj.looksAt ops) (h2 : oj.dst ≠ some d) {K : Act → World → Prop} {a : Act} {w : World}
    (h : wpOp P ops Q j (fun a' w' => K (a'.put (some d) v) w') a w) : wpOp P ops Q j K (a.put (some d) v) w := by
  have h1' : ∀ d', some d = some d' → d' ∉ oj.looksAt ops := fun d' e => by injection e with e; subst e; exact h1
  have h2' : ∀ d', some d = some d' → oj.dst ≠ some d' := fun d' e => by injection e with e; subst e; exact h2
  unfold wpOp at *
  simp only [hj] at *
  rw [wanted_put oj a (some d) v h1']
  split
  · rename_i hw
    simp only [hw, if_true] at h
    rcases h with h | ⟨hasks, hlets⟩
    case inr => exact .inr ⟨by unfold Oper.asks at *; rw [execOp_put oj hsj a (some d) v h1']; exact hasks, hlets⟩
    refine .inl ?_
    unfold Oper.wp at *
    rw [execOp_put oj hsj a (some d) v h1']
    generalize (execOp a.eval oj).run P w = r at *
    cases r with
    | ok n w' =>
      cases n <;> simp only [Oper.upon] at h ⊢
      case value u => rw [Act.put_comm a v u h2']; exact h
      case skip => rw [Act.put_comm a v undef h2']; exact h
      case defer d0 =>
        have e := Act.put_comm { a with defers := d0 :: a.defers } v undef h2'
        have : ({ a.put (some d) v with defers := d0 :: (a.put (some d) v).defers } : Act) = ({ a with defers := d0 :: a.defers } : Act).put (some d) v := rfl
        rw [this, e]
        exact h
      case enter f args =>
        refine Calls.mono h fun e w'' he => ?_
        cases e with
        | returned u => show K ((a.put (some d) v).put oj.dst u) w''; rw [Act.put_comm a v u h2']; exact he
        | panicked c => exact absurd he (hQ _ _ _)
        | outgrown => exact he
      case row row args => exact Rows.mono h fun u w'' he => by rw [Act.put_comm a v u h2']; exact he
    | halt x w' =>
      cases x <;> simp only [Oper.upon] at h ⊢
      case panic u => exact absurd h (hQ _ _ _)
  · rename_i hw
    simp only [hw] at h
    rw [Act.put_comm a v undef h2']
    exact h
theorem wpOp_putT (hQ : ∀ c a w, ¬ Q (.panic c) a w) {j : Nat} {oj : Oper} (hj : ops[j]? = some oj) (hsj : ∀ cs b, oj.op ≠ .select cs b) : ∀ (T : List Tk), (∀ t ∈ T, t.d ∉ oj.looksAt ops ∧ oj.dst ≠ some t.d) → ∀ {K : Act → World → Prop} {a : Act} {w : World},
    wpOp P ops Q j (fun a' w' => K (putT T a') w') a w → wpOp P ops Q j K (putT T a) w
  | [], _, _, _, _, h => h
  | t :: T, hT, K, a, w, h => by
    obtain ⟨h1, h2⟩ := hT t List.mem_cons_self
    refine wpOp_unput hQ hj hsj h1 h2 ?_
    exact wpOp_putT hQ hj hsj T (fun t' ht => hT t' (List.mem_cons_of_mem _ ht)) (K := fun a' w' => K (a'.put (some t.d) t.p) w') h
theorem execOp_putT {o : Oper} (hs : ∀ cs b, o.op ≠ .select cs b) : ∀ (T : List Tk) (a : Act), (∀ t ∈ T, t.d ∉ o.looksAt ops ∧ o.dst ≠ some t.d) → execOp (putT T a).eval o = execOp a.eval o
  | [], _, _ => rfl
  | t :: T, a, h => by
    show execOp ((putT T a).put (some t.d) t.p).eval o = _
    rw [execOp_put (ops := ops) o hs (putT T a) (some t.d) t.p (fun d e => by injection e with e; subst e; exact (h t List.mem_cons_self).1)]
    exact execOp_putT hs T a fun t' ht => h t' (List.mem_cons_of_mem _ ht)
theorem wanted_putT {o : Oper} : ∀ (T : List Tk) (a : Act), (∀ t ∈ T, t.d ∉ o.looksAt ops ∧ o.dst ≠ some t.d) → Region.wanted o (yielded ops (putT T a).tmps) = Region.wanted o (yielded ops a.tmps)
  | [], _, _ => rfl
  | t :: T, a, h => by
    show Region.wanted o (yielded ops ((putT T a).put (some t.d) t.p).tmps) = _
    rw [wanted_put o (putT T a) (some t.d) t.p (fun d e => by injection e with e; subst e; exact (h t List.mem_cons_self).1)]
    exact wanted_putT T a fun t' ht => h t' (List.mem_cons_of_mem _ ht)
end
/-- The floating operations. -/
def FloOk (P : Program) (ops : Array Oper) (fl : Nat → Bool) : Prop := ∀ i, fl i = true → ∃ o ty d inf z, ops[i]? = some o ∧ o.op = .alloc ty ∧ o.dst = some d ∧ o.guard = none ∧ P.info? ty = some inf ∧ inf.zero = some z ∧
  (∀ e ∈ o.after, Region.binds .any e = false) ∧ ∀ j oj, ops[j]? = some oj → j ≠ i → (∃ e ∈ oj.after, Region.binds .any e = true ∧ e.on = i) ∨ o.apart ops oj = true
/-- What waits for another floating one waits for r, too. -/
def Wt (ops : Array Oper) (fl : Nat → Bool) (L : Array Bool) (r : Nat) : Prop := ∀ i, fl i = true → i ≠ r → L.getD i true = false → ∀ j oj, ops[j]? = some oj → L.getD j true = false → (∃ e ∈ oj.after, Region.binds .any e = true ∧ e.on = i) → ReachE ops j r
/-- These steps stand for every order. -/
def PlanOk (ops : Array Oper) (fl : Nat → Bool) : List Stp → Array Bool → Prop
  | [], l => Region.ready .any ops l = []
  | .early i :: r, l => fl i = false ∧ i ∈ Region.ready .any ops l ∧ Region.free .any ops l i = true ∧ True ∧ PlanOk ops fl r (l.setIfInBounds i true)
  | .held i :: r, l => fl i = false ∧ i ∈ Region.ready .any ops l ∧ Region.free .any ops l i = true ∧ True ∧ PlanOk ops fl r (l.setIfInBounds i true)
  | .solo i :: r, l => fl i = false ∧ i ∈ Region.ready .any ops l ∧ (∀ j ∈ Region.ready .any ops l, j = i ∨ fl j = true) ∧ Wt ops fl l i ∧ PlanOk ops fl r (l.setIfInBounds i true)
  | .flo i :: r, l => fl i = true ∧ i ∈ Region.ready .any ops l ∧ (∀ j ∈ Region.ready .any ops l, fl j = true) ∧ Wt ops fl l i ∧ PlanOk ops fl r (l.setIfInBounds i true)
  | .pair i j :: r, l => (∀ x, fl x = false) ∧ Region.ready .any ops l = [i, j] ∧ Region.ready .any ops (l.setIfInBounds i true) = [j] ∧ Region.ready .any ops (l.setIfInBounds j true) = [i] ∧
      (∃ a b, ops[i]? = some a ∧ ops[j]? = some b ∧ a.guard = none ∧ b.guard = none ∧ a.apart ops b = true ∧ i ≠ j) ∧ PlanOk ops fl r ((l.setIfInBounds i true).setIfInBounds j true)
section
variable {ops : Array Oper} {fl : Nat → Bool}
/-- Nothing comes up ahead that the plan does not see coming. -/
theorem noStray {LP : Array Bool} {T : List Tk} {r j : Nat} (hD : Down ops (setT T LP)) (hr : LP.getD r true = false) (hrT : ∀ t ∈ T, t.i ≠ r) (hwt : Wt ops fl LP r) (hT : ∀ t ∈ T, fl t.i = true ∧ LP.getD t.i true = false)
    (hj : j ∈ Region.ready .any ops (setT T LP)) : j ∈ Region.ready .any ops LP := by
  obtain ⟨hun, oj, hoj, hall⟩ := mem_ready.1 hj
  obtain ⟨hun1, _⟩ := setT_un hun
  refine mem_ready.2 ⟨hun1, oj, hoj, fun e he hb => ?_⟩
  rcases setT_in (hall e he hb) with h1 | ⟨t, ht, h1⟩
  · exact h1
  · exfalso
    obtain ⟨h2, h3⟩ := hT t ht
    have h4 := hwt t.i h2 (hrT t ht) h3 j oj hoj hun1 ⟨e, he, hb, h1.symm⟩
    have h5 := hD.reach h4 (fun o ho e he hb => by rw [hoj] at ho; injection ho with ho; subst ho; exact hall e he hb)
    rcases setT_in h5 with h6 | ⟨t', ht', h6⟩
    · rw [getD_tf hr] at h6; cases h6
    · exact hrT t' ht' h6
theorem ready_setT {LP : Array Bool} {j : Nat} (hj : j ∈ Region.ready .any ops LP) : ∀ {T : List Tk}, (∀ t ∈ T, t.i ≠ j) → j ∈ Region.ready .any ops (setT T LP)
  | [], _ => hj
  | t :: T, h => ready_mono (ready_setT hj (fun t' ht => h t' (List.mem_cons_of_mem _ ht))) (Ne.symm (h t List.mem_cons_self))
theorem free_setT {LP : Array Bool} {j : Nat} {T : List Tk} (h : Region.free .any ops LP j = true) : Region.free .any ops (setT T LP) j = true := by
  unfold Region.free at h ⊢
  split at h
  · cases h
  · rename_i oi hoi
    rw [List.all_eq_true] at h ⊢
    intro x hx
    have h1 := h x hx
    simp only [Bool.or_eq_true] at h1 ⊢
    rcases h1 with (h1 | h1) | h1
    · exact .inl (.inl h1)
    · refine .inl (.inr ?_)
      cases hc : (setT T LP).getD x true with
      | true => rfl
      | false => rw [(setT_un hc).1] at h1; cases h1
    · exact .inr h1
theorem free_set {LP : Array Bool} {j i : Nat} (h : Region.free .any ops LP j = true) : Region.free .any ops (LP.setIfInBounds i true) j = true :=
  free_setT (T := [⟨i, 0, 0, 0, #[]⟩]) h
/-- An operation that the plan sees is apart from what was made ahead. -/
theorem apartT {P : Program} (hfl : FloOk P ops fl) {LP : Array Bool} {T : List Tk} {j : Nat} {oj : Oper} (hoj : ops[j]? = some oj) (hj : j ∈ Region.ready .any ops LP) (hT : ∀ t ∈ T, fl t.i = true ∧ LP.getD t.i true = false ∧ ∃ o, ops[t.i]? = some o ∧ o.dst = some t.d) (hne : ∀ t ∈ T, t.i ≠ j) :
    ∀ t ∈ T, t.d ∉ oj.looksAt ops ∧ oj.dst ≠ some t.d := by
  intro t ht
  obtain ⟨h1, h2, o, ho, hd⟩ := hT t ht
  obtain ⟨o', ty, d, inf, z, g1, g2, g3, g4, g5, g6, g7, g8⟩ := hfl t.i h1
  rw [ho] at g1
  injection g1 with g1
  subst g1
  obtain ⟨hun, o2, ho2, hall⟩ := mem_ready.1 hj
  rw [hoj] at ho2
  injection ho2 with ho2
  subst ho2
  rcases g8 j oj hoj (Ne.symm (hne t ht)) with ⟨e, he, hb, hon⟩ | hap
  · have := hall e he hb
    rw [hon, getD_tf h2] at this
    cases this
  · obtain ⟨q1, q2, _⟩ := Oper.apart_spec hap
    exact ⟨q1 t.d hd, q2 t.d hd⟩
end
section
variable {P : Program}
theorem evalPlan_cons {call : CallE} {s0 : AS} {floor : Nat} {ops : Array Oper} {t : Stp} {l : List Stp} {f : Fr} {s : AS} {kl tl : List (Nat × Nat)} :
    evalPlan P call s0 floor ops (t :: l) f s kl tl = match planOne P call s0 floor ops t f s kl tl with
      | some (f', s', kl', tl') => evalPlan P call s0 floor ops l f' s' kl' tl'
      | none => none := rfl
/-- What one step does to the two lists. -/
theorem planOne_lists {call : CallE} {s0 : AS} {floor : Nat} {ops : Array Oper} {t : Stp} {f f' : Fr} {s s' : AS} {kl tl kl' tl' : List (Nat × Nat)} (h : planOne P call s0 floor ops t f s kl tl = some (f', s', kl', tl')) :
    (kl' = kl ∨ ∃ i k, t = .held i ∧ kl' = (i, k) :: kl ∧ hasK tl k = false) ∧ (tl' = tl ∨ ∃ i ws, t = .solo i ∧ tl' = ws.map (fun k => (i, k)) ++ tl ∧ waitsAll ops i ws kl = true) := by
  unfold planOne at h
  split at h
  · repeat' (split at h)
    all_goals first
      | (cases h; done)
      | (injection h with h; injection h with _ h; injection h with _ h; injection h with h1 h2; subst h1 h2; exact ⟨.inl rfl, .inl rfl⟩)
  · split at h
    · split at h
      · split at h
        · split at h
          · rename_i ht
            injection h with h; injection h with _ h; injection h with _ h; injection h with h1 h2; subst h1 h2
            exact ⟨.inr ⟨_, _, rfl, rfl, ht⟩, .inl rfl⟩
          · cases h
        · cases h
      · injection h with h; injection h with _ h; injection h with _ h; injection h with h1 h2; subst h1 h2; exact ⟨.inl rfl, .inl rfl⟩
      · cases h
    · cases h
  · split at h
    · split at h
      · split at h
        · split at h
          · rename_i ht
            injection h with h; injection h with _ h; injection h with _ h; injection h with h1 h2; subst h1 h2
            exact ⟨.inl rfl, .inr ⟨_, _, rfl, by rw [appL_eq, mapL_eq], ht⟩⟩
          · cases h
        · cases h
      · injection h with h; injection h with _ h; injection h with _ h; injection h with h1 h2; subst h1 h2; exact ⟨.inl rfl, .inl rfl⟩
      · cases h
    · cases h
  all_goals
    repeat' (split at h)
    all_goals first
      | (cases h; done)
      | (injection h with h; injection h with _ h; injection h with _ h; injection h with h1 h2; subst h1 h2; exact ⟨.inl rfl, .inl rfl⟩)
/-- The steps' own number has not come up. -/
theorem plan_un {ops : Array Oper} {fl : Nat → Bool} {t : Stp} {l : List Stp} {LP : Array Bool} (h : PlanOk ops fl (t :: l) LP) :
    ∃ LP', PlanOk ops fl l LP' ∧ (∀ j, LP'.getD j true = false → LP.getD j true = false) ∧ (∀ i, (t = .held i ∨ t = .solo i ∨ t = .early i) → LP.getD i true = false ∧ LP'.getD i true = true) := by
  have set_un : ∀ {L : Array Bool} {i j : Nat}, (L.setIfInBounds i true).getD j true = false → L.getD j true = false := fun {L i j} h => by
    by_cases e : i = j
    · subst e
      rcases Nat.lt_or_ge i L.size with h' | h'
      · simp [Array.getD, h'] at h
      · simp [Array.getD, Nat.not_lt.2 h'] at h
    · rw [getD_set_ne true e] at h; exact h
  have set_t : ∀ {L : Array Bool} {i : Nat}, (L.setIfInBounds i true).getD i true = true := fun {L i} => by
    rcases Nat.lt_or_ge i L.size with h' | h'
    · simp [Array.getD, h']
    · simp [Array.getD, Nat.not_lt.2 h']
  cases t with
  | early i => exact ⟨_, h.2.2.2.2, fun _ => set_un, fun k hk => by rcases hk with e | e | e <;> cases e; exact ⟨(mem_ready.1 h.2.1).1, set_t⟩⟩
  | held i => exact ⟨_, h.2.2.2.2, fun _ => set_un, fun k hk => by rcases hk with e | e | e <;> cases e; exact ⟨(mem_ready.1 h.2.1).1, set_t⟩⟩
  | solo i => exact ⟨_, h.2.2.2.2, fun _ => set_un, fun k hk => by rcases hk with e | e | e <;> cases e; exact ⟨(mem_ready.1 h.2.1).1, set_t⟩⟩
  | flo i => exact ⟨_, h.2.2.2.2, fun _ => set_un, fun k hk => by rcases hk with e | e | e <;> cases e⟩
  | pair i j => exact ⟨_, h.2.2.2.2.2, fun _ hx => set_un (set_un hx), fun k hk => by rcases hk with e | e | e <;> cases e⟩
theorem evalPlan_lists {call : CallE} {s0 : AS} {floor : Nat} {ops : Array Oper} {fl : Nat → Bool} : ∀ (l : List Stp) {LP : Array Bool} {f f' : Fr} {s s' : AS} {kl tl tf : List (Nat × Nat)}, PlanOk ops fl l LP → evalPlan P call s0 floor ops l f s kl tl = some (f', s', tf) →
    (∀ p ∈ tl, p ∈ tf) ∧ (∀ p ∈ tf, p ∈ tl ∨ LP.getD p.1 true = false) ∧ (∀ q ∈ kl, ∀ p ∈ tf, p.2 = q.2 → p ∈ tl ∨ ReachE ops p.1 q.1)
  | [], LP, f, f', s, s', kl, tl, tf, hp, h => by
    have h' : some (f, s, tl) = some (f', s', tf) := h
    injection h' with h'
    injection h' with _ h'
    injection h' with _ h'
    subst h'
    exact ⟨fun _ h => h, fun _ h => .inl h, fun _ _ _ h _ => .inl h⟩
  | t :: l, LP, f, f', s, s', kl, tl, tf, hp, h => by
    rw [evalPlan_cons] at h
    split at h
    · rename_i f1 s1 kl1 tl1 h1
      obtain ⟨a1, a2⟩ := planOne_lists h1
      obtain ⟨LP', p1, p2, p3⟩ := plan_un hp
      obtain ⟨b1, b2, b3⟩ := evalPlan_lists l p1 h
      have hkl : ∀ q ∈ kl, q ∈ kl1 := fun q hq => by
        rcases a1 with rfl | ⟨i, k, _, rfl, _⟩
        · exact hq
        · exact List.mem_cons_of_mem _ hq
      rcases a2 with rfl | ⟨i, k, e, rfl, hw⟩
      · refine ⟨b1, fun p hp => ?_, fun q hq p hp e => b3 q (hkl q hq) p hp e⟩
        rcases b2 p hp with h2 | h2
        · exact .inl h2
        · exact .inr (p2 _ h2)
      · obtain ⟨g1, g2⟩ := p3 i (.inr (.inl e))
        refine ⟨fun p hp => b1 p (List.mem_append_right _ hp), fun p hp => ?_, fun q hq p hp e2 => ?_⟩
        · rcases b2 p hp with h2 | h2
          · rcases List.mem_append.1 h2 with h2 | h2
            · obtain ⟨k', _, rfl⟩ := List.mem_map.1 h2
              exact .inr g1
            · exact .inl h2
          · exact .inr (p2 _ h2)
        · rcases b3 q (hkl q hq) p hp e2 with h2 | h2
          · rcases List.mem_append.1 h2 with h2 | h2
            · obtain ⟨k', hk', rfl⟩ := List.mem_map.1 h2
              exact .inr (waitsAll_ok hw q hq (by rw [← e2]; exact hk'))
            · exact .inl h2
          · exact .inr h2
    · cases h
end
end Go.Proofs.YtjkonfopajihdaaDoor
set_option linter.unusedVariables false
set_option linter.unusedSectionVars false
set_option linter.unusedSimpArgs false
namespace Go.Proofs.YtjkonfopajihdaaDoor
open Go Go.RowKit
variable [Env] [Know]

/-- What stood where the region began stands yet, where no writer has come up. -/
def Stands (R0 : Rho) (s0 : AS) (w0 : World) (tf : List (Nat × Nat)) (L : Array Bool) (w : World) : Prop :=
  ∀ k b T B, look k s0.h = some B → (∀ j, (j, k) ∈ tf → L.getD j false = false) → R0 k b T → w.heap[b]? = w0.heap[b]?
theorem getD_set_f {L : Array Bool} {i j : Nat} (h : (L.setIfInBounds i true).getD j false = false) : L.getD j false = false := by
  cases hc : L.getD j false with
  | false => rfl
  | true => rw [getD_set_true hc] at h; cases h
theorem Stands.set {R0 : Rho} {s0 : AS} {w0 : World} {tf : List (Nat × Nat)} (L : Array Bool) (i : Nat) (w : World) (h : Stands R0 s0 w0 tf L w) : Stands R0 s0 w0 tf (L.setIfInBounds i true) w :=
  fun k b T B hk hn hr => h k b T B hk (fun j hj => getD_set_f (hn j hj)) hr
theorem Stands.unset {R0 : Rho} {s0 : AS} {w0 : World} {tf : List (Nat × Nat)} {i : Nat} (hi : ∀ p ∈ tf, p.1 ≠ i) (L : Array Bool) (w : World) (h : Stands R0 s0 w0 tf (L.setIfInBounds i true) w) : Stands R0 s0 w0 tf L w :=
  fun k b T B hk hn hr => h k b T B hk (fun j hj => by rw [getD_set_ne false (Ne.symm (hi _ hj))]; exact hn j hj) hr
def Live (s0 : AS) (tf : List (Nat × Nat)) (LP : Array Bool) (s : AS) : Prop :=
  ∀ k B, look k s0.h = some B → (∀ j, (j, k) ∈ tf → LP.getD j false = false) → look k s.h = look k s0.h
/-- A cell that was made ahead. -/
structure TkOk (P : Program) (ops : Array Oper) (fl : Nat → Bool) (w0 : World) (R : Rho) (w : World) (LP : Array Bool) (t : Tk) : Prop where
  isf : fl t.i = true
  un : LP.getD t.i true = false
  op : ∃ o inf z, ops[t.i]? = some o ∧ o.op = .alloc t.ty ∧ o.dst = some t.d ∧ P.info? t.ty = some inf ∧ inf.zero = some z ∧ t.C = z.cells
  blk : w.heap[t.b]? = some (.cells t.C t.ty (0, 0))
  new : w0.heap.size ≤ t.b
  no : ∀ k T', ¬ R k t.b T'
def Far (t u : Tk) : Prop := t.b ≠ u.b ∧ t.i ≠ u.i ∧ t.d ≠ u.d
theorem Far.symm {t u : Tk} (h : Far t u) : Far u t := ⟨h.1.symm, h.2.1.symm, h.2.2.symm⟩
theorem wpOp_load {P : Program} {ops : Array Oper} {Q : Exit → Act → World → Prop} {i : Nat} {o : Oper} {K : Act → World → Prop} {a : Act} {w : World} {x : Value} (hi : ops[i]? = some o) (hg : o.guard = none) {w' : World}
    (hr : (execOp a.eval o).run P w = .ok (.value x) w') (h : K (a.put o.dst x) w') : wpOp P ops Q i K a w := by
  unfold wpOp
  simp only [hi]
  rw [if_pos (by simp [Region.wanted, hg])]
  left
  unfold Oper.wp
  rw [hr]
  exact h
theorem noSel_of {ops : Array Oper} (hs : Region.noSelect ops = true) {i : Nat} {o : Oper} (hi : ops[i]? = some o) : ∀ cs b, o.op ≠ .select cs b := fun cs b => Region.noSelect_spec hs i o cs b hi
section
variable {P : Program} {ops : Array Oper} {fl : Nat → Bool} {w0 : World}
theorem TkOk.turn {R R' : Rho} {w w' : World} {LP LP' : Array Bool} {t : Tk} (h : TkOk P ops fl w0 R w LP t) (hun : LP'.getD t.i true = false) (hb : w'.heap[t.b]? = w.heap[t.b]?) (hno : ∀ k T', ¬ R' k t.b T') : TkOk P ops fl w0 R' w' LP' t :=
  ⟨h.isf, hun, h.op, hb.trans h.blk, h.new, hno⟩
theorem TkOk.lt {R : Rho} {w : World} {LP : Array Bool} {t : Tk} (h : TkOk P ops fl w0 R w LP t) : t.b < w.heap.size := by
  rcases Nat.lt_or_ge t.b w.heap.size with c | c
  · exact c
  · have := h.blk; rw [Array.getElem?_eq_none c] at this; cases this
set_option maxHeartbeats 3200000 in
theorem evalPlan_ok (hKn : KnowOk P) {call : CallE} (hcall : CallOk P call) {R0 : Rho} {s0 : AS} {floor base : Nat} (hns : Region.noSelect ops = true) {Q : Exit → Act → World → Prop} (hQ : ∀ c a w, ¬ Q (.panic c) a w)
    (hfl : FloOk P ops fl) {tf : List (Nat × Nat)} (hI0 : Inv R0 s0 w0 floor base) {a0 : Act} {f' : Fr} {s' : AS}
    (hK : ∀ R' a' w', Went R0 R' s0 s' w0 w' floor base → FRel R' f' a'.tmps → a'.defers = a0.defers → Q .normal a' w') :
    ∀ (N : Nat) (l : List Stp) {fuel : Nat} {LP : Array Bool} {T : List Tk} {R : Rho} {f : Fr} {s : AS} {aP : Act} {w : World} {kl tl : List (Nat × Nat)},
      fuel + l.length ≤ N → PlanOk ops fl l LP → evalPlan P call s0 floor ops l f s kl tl = some (f', s', tf) →
      Down ops (setT T LP) → cnt (setT T LP) ≤ fuel → (∀ t ∈ T, TkOk P ops fl w0 R w LP t) → T.Pairwise Far → Went R0 R s0 s w0 w floor base → FRel R f aP.tmps → aP.defers = a0.defers →
      Live s0 tf LP s → Stands R0 s0 w0 tf (setT T LP) w → (∀ p ∈ tl, LP.getD p.1 true = true) →
      wpAnyU P ops Q (Stands R0 s0 w0 tf) fuel (setT T LP) (putT T aP) w := by
  have hsel := Region.noSelect_spec hns
  intro N
  induction N with
  | zero =>
    intro l fuel LP T R f s aP w kl tl hN hp h hD hc hT hTp hG hf hd hL hS htl
    obtain rfl : fuel = 0 := by omega
    obtain rfl : l = [] := List.eq_nil_of_length_eq_zero (by omega)
    have hTn : T = [] := by
      cases T with
      | nil => rfl
      | cons t T =>
        exfalso
        have h1 := hT t List.mem_cons_self
        obtain ⟨o, ty, d, inf, z, g1, g2, g3, g4, g5, g6, g7, g8⟩ := hfl t.i h1.isf
        have : t.i ∈ Region.ready .any ops LP := mem_ready.2 ⟨h1.un, o, g1, fun e he hb => by rw [g7 e he] at hb; cases hb⟩
        rw [show Region.ready .any ops LP = [] from hp] at this
        cases this
    subst hTn
    have h' : some (f, s, tl) = some (f', s', tf) := h
    injection h' with h'
    injection h' with h1 h'
    injection h' with h2 h3
    subst h1 h2
    exact wpAnyU_done hp (hK R aP w hG hf hd) _
  | succ N ih =>
    intro l fuel LP T R f s aP w kl tl hN hp h hD hc hT hTp hG hf hd hL hS htl
    have hI := hG.inv
    have hTf : ∀ t ∈ T, fl t.i = true ∧ LP.getD t.i true = false := fun t ht => ⟨(hT t ht).isf, (hT t ht).un⟩
    have hTf2 : ∀ t ∈ T, fl t.i = true ∧ LP.getD t.i true = false ∧ ∃ o, ops[t.i]? = some o ∧ o.dst = some t.d := fun t ht =>
      let ⟨o, _, _, h1, _, h2, _⟩ := (hT t ht).op
      ⟨(hT t ht).isf, (hT t ht).un, o, h1, h2⟩
    have fuel_pos : ∀ {j}, j ∈ Region.ready .any ops (setT T LP) → ∃ n, fuel = n + 1 := fun {j} hj => by
      have := cnt_pos (mem_ready.1 hj).1
      exact ⟨fuel - 1, by omega⟩
    have cnt_next : ∀ {j n}, j ∈ Region.ready .any ops (setT T LP) → fuel = n + 1 → cnt ((setT T LP).setIfInBounds j true) ≤ n := fun {j n} hj hn => by
      have := cnt_set (mem_ready.1 hj).1
      omega
    -- a floating one is made now
    have float : ∀ m ∈ Region.ready .any ops (setT T LP), fl m = true → ∀ n, fuel = n + 1 →
        wpOp P ops Q m (fun a' w' => Stands R0 s0 w0 tf ((setT T LP).setIfInBounds m true) w' ∧ wpAnyU P ops Q (Stands R0 s0 w0 tf) n ((setT T LP).setIfInBounds m true) a' w') (putT T aP) w := by
      intro m hm hmf n hn
      obtain ⟨o, ty, d, inf, z, g1, g2, g3, g4, g5, g6, g7, g8⟩ := hfl m hmf
      obtain ⟨hun1, hun2⟩ := setT_un (mem_ready.1 hm).1
      let t : Tk := ⟨m, d, w.heap.size, ty, z.cells⟩
      let w1 : World := { w with heap := w.heap.push (.cells z.cells ty) }
      have hbl : Below w.heap.size w w1 := ⟨rfl, rfl, rfl, by show w.heap.size ≤ (w.heap.push _).size; simp, fun k hk => by show (w.heap.push _)[k]? = _; rw [Array.getElem?_push, if_neg (by omega)]⟩
      have hrun : (execOp (putT T aP).eval o).run P w = .ok (.value t.p) w1 := by
        obtain ⟨dst, op, type, pos, after, guard⟩ := o
        simp only at g2
        subst g2
        simp [execOp, Instr.alloc, zeroValue, typeInfo, g5, g6, newVar, newRow, t, Tk.p, w1]
      refine wpOp_load g1 g4 hrun ?_
      have hS1 : Stands R0 s0 w0 tf ((setT T LP).setIfInBounds m true) w1 := by
        refine Stands.set _ _ _ ?_
        intro k b T' B hk hn hr
        refine (hbl.block b ?_).trans (hS k b T' B hk hn hr)
        exact Nat.lt_of_lt_of_le (hI0.rel.dom hr).2 hG.below.size
      refine ⟨hS1, ?_⟩
      rw [g3]
      have hTnew : TkOk P ops fl w0 R w1 LP t := ⟨hmf, hun1, ⟨o, inf, z, g1, g2, g3, g5, g6, rfl⟩, by show (w.heap.push _)[w.heap.size]? = _; simp [t], hG.below.size, fun k T' r => by have := (hI.rel.dom r).2; exact absurd this (Nat.lt_irrefl _)⟩
      refine ih l (T := t :: T) (LP := LP) (R := R) (aP := aP) (by omega) hp h (hD.set hm) (cnt_next hm hn) ?_ ?_ ?_ hf hd hL hS1 htl
      · intro t' ht'
        rcases List.mem_cons.1 ht' with rfl | ht'
        · exact hTnew
        · exact (hT t' ht').turn (hT t' ht').un (hbl.block _ (hT t' ht').lt) (hT t' ht').no
      · refine List.pairwise_cons.2 ⟨fun u hu => ⟨?_, ?_, ?_⟩, hTp⟩
        · have := (hT u hu).lt
          show w.heap.size ≠ u.b
          omega
        · exact Ne.symm (hun2 u hu)
        · obtain ⟨ou, _, _, q1, _, q3, _⟩ := (hT u hu).op
          rcases g8 u.i ou q1 (hun2 u hu) with ⟨e, he, hb, hon⟩ | hap
          · obtain ⟨o2, ty2, d2, inf2, z2, k1, k2, k3, k4, k5, k6, k7, k8⟩ := hfl u.i (hT u hu).isf
            rw [q1] at k1
            injection k1 with k1
            subst k1
            rw [k7 e he] at hb
            cases hb
          · have := (Oper.apart_spec hap).2.1 d g3
            intro e
            exact this (by rw [q3]; exact congrArg some e.symm)
      · exact ⟨hG.ext, hG.old, hG.num, hG.keep, ⟨⟨hI.rel.fn, fun r => ⟨(hI.rel.dom r).1, Nat.lt_of_lt_of_le (hI.rel.dom r).2 hbl.size⟩, hI.rel.inj, fun hk => let ⟨b, T', r, q⟩ := hI.rel.blk hk; ⟨b, T', r, q.of_block (hbl.block b (hI.rel.dom r).2)⟩⟩, Nat.le_trans hI.hb hbl.size, hI.hf, hI.own, fun hg => hI.glo_below hg (hbl.mono hI.hb), hI.kgl⟩, hG.below.trans (hbl.mono hI.hb), hG.fresh, hG.more, fun hk r hn => let ⟨c1, c2⟩ := hG.wrote hk r hn; ⟨(hbl.block _ (Nat.lt_of_lt_of_le (hI0.rel.dom r).2 hG.below.size)).trans c1, c2⟩, fun b hb hn => (hbl.block b (Nat.lt_of_lt_of_le hb hG.below.size)).trans (hG.other b hb hn)⟩
    have setT_t : ∀ {L : Array Bool} {i : Nat}, (L.setIfInBounds i true).getD i true = true := fun {L i} => by
      rcases Nat.lt_or_ge i L.size with h' | h'
      · simp [Array.getD, h']
      · simp [Array.getD, Nat.not_lt.2 h']
    have keep_t : ∀ {L : Array Bool} {i j : Nat}, L.getD j true = true → (L.setIfInBounds i true).getD j true = true := fun {L i j} h => by
      by_cases e : i = j
      · subst e; exact setT_t
      · rw [getD_set_ne true e]; exact h
    have set_tf : ∀ {L : Array Bool} {i : Nat}, L.getD i true = false → (L.setIfInBounds i true).getD i false = true := fun {L i} h => by
      rcases Nat.lt_or_ge i L.size with h' | h'
      · simp [Array.getD, h']
      · simp [Array.getElem?_eq_none h'] at h
    -- on to the next step
    have cont : ∀ {i n : Nat} {r : List Stp} {o : Oper} {R1 : Rho} {f1 : Fr} {s1 : AS} {x : Value} {w1 : World} {kl1 tl1 : List (Nat × Nat)}, fuel = n + 1 → n + r.length ≤ N → PlanOk ops fl r (LP.setIfInBounds i true) → evalPlan P call s0 floor ops r f1 s1 kl1 tl1 = some (f', s', tf) → i ∈ Region.ready .any ops (setT T LP) → (∀ t ∈ T, t.i ≠ i) → (∀ t ∈ T, TkOk P ops fl w0 R1 w1 LP t) → Went R0 R1 s0 s1 w0 w1 floor base →
        FRel R1 f1 (aP.put o.dst x).tmps → Live s0 tf (LP.setIfInBounds i true) s1 → Stands R0 s0 w0 tf ((setT T LP).setIfInBounds i true) w1 → (∀ p ∈ tl1, (LP.setIfInBounds i true).getD p.1 true = true) →
        wpAnyU P ops Q (Stands R0 s0 w0 tf) n ((setT T LP).setIfInBounds i true) (putT T (aP.put o.dst x)) w1 := by
      intro i n r o R1 f1 s1 x w1 kl1 tl1 hn hN' hp' h' hi hne hT' hG' hf' hL' hS' htl'
      have hD' := hD.set hi
      have hc' := cnt_next hi hn
      rw [← setT_set] at hD' hc' hS' ⊢
      refine ih r hN' hp' h' hD' hc' (fun t ht => ?_) hTp hG' hf' (by rw [put_defers]; exact hd) hL' hS' htl'
      exact (hT' t ht).turn (by rw [getD_set_ne true (Ne.symm (hne t ht))]; exact (hT' t ht).un) rfl (hT' t ht).no
    cases l with
    | nil =>
      have hTn : T = [] := by
        cases T with
        | nil => rfl
        | cons t T =>
          exfalso
          have h1 := hT t List.mem_cons_self
          obtain ⟨o, ty, d, inf, z, g1, g2, g3, g4, g5, g6, g7, g8⟩ := hfl t.i h1.isf
          have : t.i ∈ Region.ready .any ops LP := mem_ready.2 ⟨h1.un, o, g1, fun e he hb => by rw [g7 e he] at hb; cases hb⟩
          rw [show Region.ready .any ops LP = [] from hp] at this
          cases this
      subst hTn
      have h' : some (f, s, tl) = some (f', s', tf) := h
      injection h' with h'
      injection h' with h1 h'
      injection h' with h2 h3
      subst h1 h2
      exact wpAnyU_done hp (hK R aP w hG hf hd) _
    | cons t l =>
      rw [evalPlan_cons] at h
      split at h
      case h_2 => cases h
      rename_i f1 s1 kl1 tl1 h1
      have hlen : fuel + (l.length + 1) ≤ N + 1 := hN
      cases t with
      | early i =>
        obtain ⟨p0, p1, p2, p3, p4⟩ := hp
        have hne : ∀ t ∈ T, t.i ≠ i := fun t ht e => by rw [← e, (hT t ht).isf] at p0; cases p0
        have hr := ready_setT p1 hne
        obtain ⟨n, rfl⟩ := fuel_pos hr
        obtain ⟨_, b2, _⟩ := evalPlan_lists l p4 h
        simp only [planOne] at h1
        split at h1
        · rename_i o ho
          have hap := apartT hfl ho p1 hTf2 hne
          have go : ∀ {v : AV} {x : Value}, VRel R v x → YieldsIf P ops (Si ops (Stands R0 s0 w0 tf) i) o x (putT T aP) → (putA f o.dst v, s, kl, tl) = (f1, s1, kl1, tl1) → wpAnyU P ops Q (Stands R0 s0 w0 tf) (n + 1) (setT T LP) (putT T aP) w := by
            intro v x hx hy he
            injection he with e1 he
            injection he with e2 he
            injection he with e3 e4
            subst e1 e2 e3 e4
            have hin2 : ∀ p ∈ tf, p.1 ≠ i := fun p hp e => by
              rcases b2 p hp with h2 | h2
              · have := htl p h2
                rw [e, (mem_ready.1 p1).1] at this
                cases this
              · rw [e, setT_t] at h2; cases h2
            refine wpAnyU_take hns (fun L i w h => Stands.set L i w h) hQ ho (free_setT p2) (Stands.unset hin2) hr hD hy hS ?_
            rw [← putT_put T aP o.dst x (fun t ht => (hap t ht).2)]
            exact cont rfl (by omega) p4 h hr hne hT hG (putA_ok hf o.dst hx) (fun k B hk hn => hL k B hk (fun j hj => getD_set_f (hn j hj))) (Stands.set _ _ _ hS) (fun p hp => keep_t (htl p hp))
          split at h1
          · rename_i hw
            have hw := wantA_ok hf hw
            split at h1
            · rename_i v hv
              obtain ⟨x, hx, hrun⟩ := evalWl_ok hKn hv hf
              exact go hx (.inl ⟨by rw [wanted_putT T aP hap]; exact hw, fun w' _ => by rw [execOp_putT (noSel_of hns ho) T aP hap]; exact hrun w'⟩) (Option.some.inj h1)
            · cases h1
          · rename_i hw
            have hw := wantA_ok hf hw
            exact go (VRel.lit_ undef) (.inr ⟨by rw [wanted_putT T aP hap]; exact hw, rfl⟩) (Option.some.inj h1)
          · cases h1
        · cases h1
      | held i =>
        obtain ⟨p0, p1, p2, p3, p4⟩ := hp
        have hne : ∀ t ∈ T, t.i ≠ i := fun t ht e => by rw [← e, (hT t ht).isf] at p0; cases p0
        have hr := ready_setT p1 hne
        obtain ⟨n, rfl⟩ := fuel_pos hr
        obtain ⟨_, b2, b3⟩ := evalPlan_lists l p4 h
        simp only [planOne] at h1
        split at h1
        · rename_i o ho
          have hap := apartT hfl ho p1 hTf2 hne
          have go : ∀ {v : AV} {x : Value}, VRel R v x → YieldsIf P ops (Si ops (Stands R0 s0 w0 tf) i) o x (putT T aP) → putA f o.dst v = f1 → s = s1 → tl = tl1 → wpAnyU P ops Q (Stands R0 s0 w0 tf) (n + 1) (setT T LP) (putT T aP) w := by
            intro v x hx hy e1 e2 e4
            subst e1 e2 e4
            have hin2 : ∀ p ∈ tf, p.1 ≠ i := fun p hp e => by
              rcases b2 p hp with h2 | h2
              · have := htl p h2
                rw [e, (mem_ready.1 p1).1] at this
                cases this
              · rw [e, setT_t] at h2; cases h2
            refine wpAnyU_take hns (fun L i w h => Stands.set L i w h) hQ ho (free_setT p2) (Stands.unset hin2) hr hD hy hS ?_
            rw [← putT_put T aP o.dst x (fun t ht => (hap t ht).2)]
            exact cont rfl (by omega) p4 h hr hne hT hG (putA_ok hf o.dst hx) (fun k B hk hn => hL k B hk (fun j hj => getD_set_f (hn j hj))) (Stands.set _ _ _ hS) (fun p hp => keep_t (htl p hp))
          split at h1
          · rename_i hw
            have hw := wantA_ok hf hw
            split at h1
            · rename_i v k hv
              split at h1
              · rename_i B0 hB0 htk
                have h1 := Option.some.inj h1
                injection h1 with e1 h1
                injection h1 with e2 h1
                injection h1 with e3 e4
                obtain ⟨x, b, T', B, hx, hB, hrb, hrun⟩ := load_mem (P := P) hI hf hv
                have hk0 : k < s0.n := by
                  obtain ⟨b', T', r', _⟩ := hI0.rel.blk hB0
                  exact (hI0.rel.dom r').1
                have hr0' := hG.old hrb hk0
                have good : ∀ {L : Array Bool} {w' : World}, Down ops L → L.getD i true = false → Stands R0 s0 w0 tf L w' → w'.heap[b]? = w0.heap[b]? := by
                  intro L w' hDL hiL hSL
                  refine hSL k b T' B0 hB0 (fun j hj => ?_) hr0'
                  rcases b3 (i, k) (by rw [← e3]; exact List.mem_cons_self) (j, k) hj rfl with h2 | h2
                  · rw [← e4] at h2
                    exact absurd rfl (hasK_false htk _ h2)
                  · cases hc : L.getD j false with
                    | false => rfl
                    | true =>
                      have := hDL.of_listed h2 hc
                      rw [getD_tf hiL] at this
                      cases this
                refine go hx (.inl ⟨by rw [wanted_putT T aP hap]; exact hw, fun w' hw' => ?_⟩) e1 e2 e4
                rw [execOp_putT (noSel_of hns ho) T aP hap]
                obtain ⟨L, hDL, hiL, hSL⟩ := hw'
                exact hrun w' ((good hDL hiL hSL).trans (good hD (mem_ready.1 hr).1 hS).symm)
              · cases h1
            · cases h1
          · rename_i hw
            have hw := wantA_ok hf hw
            have h1 := Option.some.inj h1
            injection h1 with e1 h1
            injection h1 with e2 h1
            injection h1 with e3 e4
            exact go (VRel.lit_ undef) (.inr ⟨by rw [wanted_putT T aP hap]; exact hw, rfl⟩) e1 e2 e4
          · cases h1
        · cases h1
      | solo i =>
        obtain ⟨p0, p1, p2, p3, p4⟩ := hp
        have hne : ∀ t ∈ T, t.i ≠ i := fun t ht e => by rw [← e, (hT t ht).isf] at p0; cases p0
        have hr := ready_setT p1 hne
        obtain ⟨n, rfl⟩ := fuel_pos hr
        obtain ⟨b1, b2, b3⟩ := evalPlan_lists l p4 h
        have hiu := (mem_ready.1 p1).1
        refine ⟨fun h0 => (by rw [h0] at hr; cases hr), fun m hm => ?_⟩
        cases hmf : fl m with
        | true => exact float m hm hmf n rfl
        | false =>
          have hmi : m = i := by
            rcases p2 m (noStray hD hiu hne p3 hTf hm) with e | e
            · exact e
            · rw [hmf] at e; cases e
          subst hmi
          simp only [planOne] at h1
          split at h1
          · rename_i o ho
            have hap := apartT hfl ho p1 hTf2 hne
            refine wpOp_putT hQ ho (noSel_of hns ho) T hap ?_
            unfold wpOp
            simp only [ho]
            split at h1
            · rename_i hw
              have hw := wantA_ok hf hw
              rw [if_pos hw]
              left
              split at h1
              · rename_i v s2 hv
                split at h1
                · have h1 := Option.some.inj h1
                  injection h1 with e1 h1
                  injection h1 with e2 h1
                  injection h1 with e3 e4
                  rw [appL_eq, mapL_eq] at e4
                  subst e1 e2
                  have htg : ∀ k, k ∈ s2.wr → (m, k) ∈ tf := fun k hk => b1 _ (by rw [← e4]; exact List.mem_append_left _ (List.mem_map.2 ⟨k, hk, rfl⟩))
                  have htl1 : ∀ p ∈ tl1, (LP.setIfInBounds m true).getD p.1 true = true := fun p hp => by
                    rw [← e4] at hp
                    rcases List.mem_append.1 hp with hp | hp
                    · obtain ⟨k', _, rfl⟩ := List.mem_map.1 hp
                      exact setT_t
                    · exact keep_t (htl p hp)
                  refine evalOp_ok hKn hcall (hI.wr_ []) hf hv fun R' x w' hx hg0 => ?_
                  have hg := hg0.merge
                  have hS' : Stands R0 s0 w0 tf ((setT T LP).setIfInBounds m true) w' := by
                    intro k b T' B hk hn hrb
                    have hk2 := hL k B hk (fun j hj => by
                      cases hc : LP.getD j false with
                      | false => rfl
                      | true =>
                        have := getD_set_f (hn j hj)
                        rw [setT_up hc] at this; cases this)
                    rw [hk] at hk2
                    have := (hg0.wrote hk2 (hG.ext _ _ _ hrb) (fun e => by
                      have h9 := hn m (htg k e)
                      rw [set_tf (mem_ready.1 hr).1] at h9; cases h9)).1
                    exact this.trans (hS k b T' B hk (fun j hj => getD_set_f (hn j hj)) hrb)
                  refine ⟨hS', ?_⟩
                  refine cont rfl (by omega) p4 h hr hne (fun t ht => ?_) (hG.trans hg) (putA_ok (hf.ext hg.ext) o.dst hx) (fun k B hk hn => ?_) hS' htl1
                  · have hno : ∀ k T', ¬ R' k t.b T' := fun k T' r => by
                      rcases hg.fresh r with ⟨k0, T0, r0⟩ | hb
                      · exact (hT t ht).no _ _ r0
                      · have := (hT t ht).lt; omega
                    exact (hT t ht).turn (hT t ht).un (hg.other t.b (hT t ht).lt hno) hno
                  · have hk2 := hL k B hk (fun j hj => getD_set_f (hn j hj))
                    have hk3 := hk2
                    rw [hk] at hk3
                    obtain ⟨b, T', r, _⟩ := hI.rel.blk hk3
                    exact ((hg0.wrote hk3 r (fun e => by
                      have h9 := hn m (htg k e)
                      rw [set_tf hiu] at h9; cases h9)).2).trans hk2
                · cases h1
              · cases h1
            · rename_i hw
              have hw := wantA_ok hf hw
              rw [if_neg (by simp [hw])]
              have h1 := Option.some.inj h1
              injection h1 with e1 h1
              injection h1 with e2 h1
              injection h1 with e3 e4
              subst e1 e2 e4
              exact ⟨Stands.set _ _ _ hS, cont rfl (by omega) p4 h hr hne hT hG (putA_ok hf o.dst (VRel.lit_ _)) (fun k B hk hn => hL k B hk (fun j hj => getD_set_f (hn j hj))) (Stands.set _ _ _ hS) (fun p hp => keep_t (htl p hp))⟩
            · cases h1
          · cases h1
      | flo i =>
        obtain ⟨p0, p1, p2, p3, p4⟩ := hp
        by_cases hin : ∃ t ∈ T, t.i = i
        · obtain ⟨t, ht, rfl⟩ := hin
          obtain ⟨T1, T2, rfl⟩ := List.append_of_mem ht
          have hpw := List.pairwise_append.1 hTp
          have hpw2 := List.pairwise_cons.1 hpw.2.1
          have hTt := hT t ht
          obtain ⟨o, inf, z, q1, q2, q3, q4, q5, q6⟩ := hTt.op
          have hfar : ∀ u ∈ T1 ++ T2, Far t u := fun u hu => by
            rcases List.mem_append.1 hu with hu | hu
            · exact (hpw.2.2 u hu t List.mem_cons_self).symm
            · exact hpw2.1 u hu
          have hsub : ∀ u ∈ T1 ++ T2, u ∈ T1 ++ t :: T2 := fun u hu => by
            rcases List.mem_append.1 hu with hu | hu
            · exact List.mem_append_left _ hu
            · exact List.mem_append_right _ (List.mem_cons_of_mem _ hu)
          simp only [planOne, q1, q2, q4, q5] at h1
          have h1 := Option.some.inj h1
          injection h1 with e1 h1
          injection h1 with e2 h1
          injection h1 with e3 e4
          subst e1 e2 e3 e4
          rw [setT_out] at hD hc hS ⊢
          rw [putT_out T1 aP (fun u hu => (hpw2.1 u hu).2.2)]
          have hnb := hTt.no
          have hC : t.C.toList.take (mapL AV.lit z.cells.toList).length = z.cells.toList := by rw [q6, mapL_eq, List.length_map, List.take_length]
          have hA := hI.adopt (B := mapL AV.lit z.cells.toList) hTt.blk (Nat.le_trans hI0.hb hTt.new) hnb (by rw [hC, mapL_eq]; exact VRels.lits_ _) (by rw [mapL_eq, q6]; simp) (fz0 _)
          refine ih l (LP := LP.setIfInBounds t.i true) (T := T1 ++ T2) (R := fun k b T' => R k b T' ∨ (k = s.n ∧ b = t.b ∧ T' = t.C.size)) (aP := aP.put (some t.d) t.p) (by omega) p4 h hD hc (fun u hu => ?_) ?_ ?_ ?_ (by rw [put_defers]; exact hd) ?_ hS (fun p hp => keep_t (htl p hp))
          · have hu' := hT u (hsub u hu)
            refine hu'.turn (by rw [getD_set_ne true (hfar u hu).2.1]; exact hu'.un) rfl (fun k T' r => ?_)
            rcases r with r | ⟨_, e, _⟩
            · exact hu'.no _ _ r
            · exact (hfar u hu).1 e.symm
          · exact List.pairwise_append.2 ⟨hpw.1, hpw2.2, fun x hx y hy => hpw.2.2 x hx y (List.mem_cons_of_mem _ hy)⟩
          · have hs0 := hG.num
            refine ⟨fun _ _ _ r => .inl (hG.ext _ _ _ r), fun r hk => ?_, by show s0.n ≤ s.n + 1; omega, fun k hk => ?_, hA, hG.below, fun r => ?_, hG.more, fun {k b T' B} hk r hn => ?_, fun b hb hn => hG.other b hb (fun k T' r => hn k T' (.inl r))⟩
            · rcases r with r | ⟨e, _, _⟩
              · exact hG.old r hk
              · omega
            · have := hI0.hf
              show look k ((s.n, _) :: s.h) = _
              rw [look_cons, if_neg (by show ¬ s.n = k; omega)]
              exact hG.keep k hk
            · rcases r with r | ⟨_, e, _⟩
              · exact hG.fresh r
              · exact .inr (by rw [e]; exact hTt.new)
            · obtain ⟨c1, c2⟩ := hG.wrote hk r hn
              have := (hI0.rel.dom r).1
              refine ⟨c1, ?_⟩
              show look k ((s.n, _) :: s.h) = _
              rw [look_cons, if_neg (by show ¬ s.n = k; omega)]
              exact c2
          · rw [q3]
            refine putA_ok (hf.ext (fun _ _ _ r => .inl r)) (some t.d) ?_
            unfold VRel
            exact ⟨t.b, t.C.size, .inr ⟨rfl, rfl, rfl⟩, rfl⟩
          · intro k B hk hn
            have hk1 : k < s0.n := by
              obtain ⟨b', T', r', _⟩ := hI0.rel.blk hk
              exact (hI0.rel.dom r').1
            have := hG.num
            show look k ((s.n, _) :: s.h) = _
            rw [look_cons, if_neg (by show ¬ s.n = k; omega)]
            exact hL k B hk (fun j hj => getD_set_f (hn j hj))
        · have hne : ∀ t ∈ T, t.i ≠ i := fun t ht e => hin ⟨t, ht, e⟩
          have hr := ready_setT p1 hne
          obtain ⟨n, rfl⟩ := fuel_pos hr
          refine ⟨fun h0 => (by rw [h0] at hr; cases hr), fun m hm => ?_⟩
          cases hmf : fl m with
          | true => exact float m hm hmf n rfl
          | false =>
            have := p2 m (noStray hD (mem_ready.1 p1).1 hne p3 hTf hm)
            rw [hmf] at this; cases this
      | pair i j =>
        obtain ⟨p0, p1, p2, p3, ⟨oa, ob, ha, hb, ga, gb, hap, hij⟩, p4⟩ := hp
        have hTn : T = [] := by
          cases T with
          | nil => rfl
          | cons t T => have := (hT t List.mem_cons_self).isf; rw [p0] at this; cases this
        subst hTn
        have hri : i ∈ Region.ready .any ops LP := by rw [p1]; simp
        have hrj : j ∈ Region.ready .any ops LP := by rw [p1]; simp
        have hrj2 : j ∈ Region.ready .any ops (LP.setIfInBounds i true) := by rw [p2]; simp
        have hri2 : i ∈ Region.ready .any ops (LP.setIfInBounds j true) := by rw [p3]; simp
        have c1 := cnt_set (mem_ready.1 hri).1
        have c2 := cnt_set (mem_ready.1 hrj2).1
        have hc' : cnt LP ≤ fuel := hc
        obtain ⟨n, rfl⟩ : ∃ n, fuel = n + 1 + 1 := ⟨fuel - 2, by omega⟩
        simp only [planOne, ha, hb] at h1
        split at h1
        · rename_i u k1 v k2 hu hv
          have h1 := Option.some.inj h1
          injection h1 with e1 h1
          injection h1 with e2 h1
          injection h1 with e3 e4
          subst e1 e2 e3 e4
          obtain ⟨x, _, _, _, hx, _, _, hrx⟩ := load_mem (P := P) hI hf hu
          obtain ⟨y, _, _, _, hy, _, _, hry⟩ := load_mem (P := P) hI hf hv
          obtain ⟨q1, q2, q3⟩ := Oper.apart_spec hap
          have hSi : Stands R0 s0 w0 tf (LP.setIfInBounds i true) w := Stands.set _ _ _ hS
          have hSj : Stands R0 s0 w0 tf (LP.setIfInBounds j true) w := Stands.set _ _ _ hS
          have hSij : Stands R0 s0 w0 tf ((LP.setIfInBounds i true).setIfInBounds j true) w := Stands.set _ _ _ hSi
          have rest : wpAnyU P ops Q (Stands R0 s0 w0 tf) n ((LP.setIfInBounds i true).setIfInBounds j true) ((aP.put oa.dst x).put ob.dst y) w :=
            ih l (T := []) (LP := (LP.setIfInBounds i true).setIfInBounds j true) (aP := (aP.put oa.dst x).put ob.dst y) (by omega) p4 h (Down.set (Down.set hD hri) hrj2) (by show cnt ((LP.setIfInBounds i true).setIfInBounds j true) ≤ n; omega) (fun t ht => by cases ht) .nil hG (putA_ok (putA_ok hf oa.dst hx) ob.dst hy) (by rw [put_defers, put_defers]; exact hd)
              (fun k B hk hn => hL k B hk (fun j' hj' => getD_set_f (getD_set_f (hn j' hj')))) hSij (fun p hp => keep_t (keep_t (htl p hp)))
          refine ⟨fun h0 => (by rw [show Region.ready .any ops LP = [] from h0] at hri; cases hri), fun m hm => ?_⟩
          have hm : m = i ∨ m = j := by rw [show Region.ready .any ops (setT [] LP) = [i, j] from p1] at hm; simpa using hm
          rcases hm with rfl | rfl
          · refine wpOp_load ha ga (hrx w rfl) ⟨hSi, ?_⟩
            refine ⟨fun h0 => (by rw [show Region.ready .any ops (LP.setIfInBounds m true) = [] from h0] at hrj2; cases hrj2), fun m' hm' => ?_⟩
            have hm' : m' = j := by rw [show Region.ready .any ops ((setT [] LP).setIfInBounds m true) = [j] from p2] at hm'; simpa using hm'
            subst hm'
            refine wpOp_load hb gb (w' := w) ?_ ⟨hSij, rest⟩
            show (execOp (aP.put oa.dst x).eval ob).run P w = _
            rw [execOp_put ob (noSel_of hns hb) aP oa.dst x q1]
            exact hry w rfl
          · refine wpOp_load hb gb (hry w rfl) ⟨hSj, ?_⟩
            refine ⟨fun h0 => (by rw [show Region.ready .any ops (LP.setIfInBounds m true) = [] from h0] at hri2; cases hri2), fun m' hm' => ?_⟩
            have hm' : m' = i := by rw [show Region.ready .any ops ((setT [] LP).setIfInBounds m true) = [i] from p3] at hm'; simpa using hm'
            subst hm'
            have hcomm : (setT [] LP).setIfInBounds m true = LP.setIfInBounds m true := rfl
            refine wpOp_load (x := x) ha ga (w' := w) ?_ ?_
            · show (execOp (aP.put ob.dst y).eval oa).run P w = _
              rw [execOp_put oa (noSel_of hns ha) aP ob.dst y q3]
              exact hrx w rfl
            · show Stands R0 s0 w0 tf ((LP.setIfInBounds m true).setIfInBounds m' true) w ∧ wpAnyU P ops Q (Stands R0 s0 w0 tf) n ((LP.setIfInBounds m true).setIfInBounds m' true) ((aP.put ob.dst y).put oa.dst x) w
              rw [Array.setIfInBounds_comm _ _ (Ne.symm hij), ← Act.put_comm aP x y q2]
              exact ⟨hSij, rest⟩
        · cases h1
end
end Go.Proofs.YtjkonfopajihdaaDoor
set_option linter.unusedVariables false
set_option linter.unusedSectionVars false
set_option linter.unusedSimpArgs false
namespace Go.Proofs.YtjkonfopajihdaaDoor
open Go Go.RowKit
variable [Env] [Know]

theorem readyL_eq (m : Nat) (l : List Rec) : readyL m l = l.filter (readyR m) := by
  induction l with
  | nil => rfl
  | cons r l ih =>
    show (Bool.rec (readyL m l) (r :: readyL m l) (readyR m r) : List Rec) = _
    rw [List.filter_cons, ih]
    cases readyR m r <;> rfl
theorem without_eq (i : Nat) (l : List Rec) : without i l = l.filter (fun r => !Nat.beq r.i i) := by
  induction l with
  | nil => rfl
  | cons r l ih =>
    show (Bool.rec (r :: without i l) (without i l) (Nat.beq r.i i) : List Rec) = _
    rw [List.filter_cons, ih]
    cases Nat.beq r.i i <;> rfl
theorem firstR_some {t : Oper → Bool} {m : Nat} {all : List Rec} {r : Rec} : ∀ {l : List Rec}, firstR t m all l = some r → r ∈ l ∧ t r.o = true ∧ readyR m r = true ∧ freeR all r = true
  | q :: l, h => by
    have h' : (Bool.rec (firstR t m all l) (some q) (t q.o && (readyR m q && freeR all q)) : Option Rec) = some r := h
    cases hb : (t q.o && (readyR m q && freeR all q)) with
    | true =>
      rw [hb] at h'
      injection h' with h'
      subst h'
      simp only [Bool.and_eq_true] at hb
      exact ⟨List.mem_cons_self, hb.1, hb.2.1, hb.2.2⟩
    | false =>
      rw [hb] at h'
      obtain ⟨h1, h2⟩ := firstR_some h'
      exact ⟨List.mem_cons_of_mem _ h1, h2⟩
theorem readyR_iff (m : Nat) (r : Rec) : readyR m r = true ↔ ∀ j, r.deps.testBit j = true → m.testBit j = true := by
  unfold readyR
  constructor
  · intro h j hj
    have h := Nat.eq_of_beq_eq_true h
    rw [← h, Nat.testBit_and] at hj
    simp only [Bool.and_eq_true] at hj
    exact hj.2
  · intro h
    have : r.deps &&& m = r.deps := by
      apply Nat.eq_of_testBit_eq
      intro j
      rw [Nat.testBit_and]
      cases hj : r.deps.testBit j with
      | false => rfl
      | true => rw [h j hj]; rfl
    rw [this]
    exact Nat.beq_refl _
theorem readyR_mono {m i : Nat} {r : Rec} (h : readyR m r = true) : readyR (m ||| 2 ^ i) r = true := by
  rw [readyR_iff] at h ⊢
  intro j hj
  rw [testBit_or_pow, h j hj]; rfl
/-- m tells what is listed, l what is not. -/
structure Corr (ops : Array Oper) (m : Nat) (l : List Rec) (listed : Array Bool) : Prop where
  size : listed.size = ops.size
  bit : ∀ i, i < ops.size → listed.getD i true = m.testBit i
  top : ∀ i, m.testBit i = true → i < ops.size
  rest : l = (allR ops).filter (fun r => !m.testBit r.i)
section
variable {ops : Array Oper} {m : Nat} {l : List Rec} {listed : Array Bool}
theorem Corr.getF (h : Corr ops m l listed) (i : Nat) : listed.getD i false = m.testBit i := by
  by_cases hi : i < ops.size
  · have h1 := h.bit i hi
    have h2 : i < listed.size := by rw [h.size]; exact hi
    simp [Array.getD, h2] at h1 ⊢
    exact h1
  · have h2 : ¬ i < listed.size := by rw [h.size]; exact hi
    have h3 : m.testBit i = false := by
      cases hb : m.testBit i with
      | false => rfl
      | true => exact absurd (h.top i hb) hi
    rw [h3]
    simp [Array.getD, h2]
theorem Corr.mem (h : Corr ops m l listed) {r : Rec} (hr : r ∈ l) : r ∈ allR ops ∧ m.testBit r.i = false := by
  rw [h.rest] at hr
  have := List.mem_filter.1 hr
  exact ⟨this.1, by simpa using this.2⟩
theorem Corr.ready_iff (h : Corr ops m l listed) {r : Rec} (hr : r ∈ allR ops) : (!listed.getD r.i true && ((ops[r.i]?).map (·.after.all fun e => !Region.binds .any e || listed.getD e.on false)).getD false) = (!m.testBit r.i && readyR m r) := by
  obtain ⟨h1, h2, h3⟩ := allR_mem hr
  have hi : r.i < ops.size := (Array.getElem?_eq_some_iff.1 h1).1
  rw [h.bit _ hi, h1, Option.map_some, Option.getD_some]
  congr 1
  rw [Bool.eq_iff_iff, readyR_iff, h2]
  simp only [Array.all_eq_true_iff_forall_mem, Bool.or_eq_true, Bool.not_eq_true', depM_bit]
  constructor
  · rintro ha j ⟨e, he, hb, rfl⟩
    rcases ha e he with h | h'
    · rw [hb] at h; cases h
    · rw [h.getF] at h'; exact h'
  · intro ha e he
    cases hb : Region.binds .any e with
    | false => exact .inl rfl
    | true => exact .inr (by rw [h.getF]; exact ha _ ⟨e, he, hb, rfl⟩)
theorem Corr.ready (h : Corr ops m l listed) : Region.ready .any ops listed = (l.filter (readyR m)).map (·.i) := by
  unfold Region.ready
  rw [← allR_map, List.filter_map, h.rest, List.filter_filter]
  congr 1
  apply List.filter_congr
  intro r hr
  have := h.ready_iff hr
  simp only [Function.comp]
  rw [this, Bool.and_comm]
theorem Corr.set (h : Corr ops m l listed) {r : Rec} (hr : r ∈ l) : Corr ops (m ||| 2 ^ r.i) (without r.i l) (listed.setIfInBounds r.i true) := by
  obtain ⟨h1, h2⟩ := h.mem hr
  have hi : r.i < ops.size := (Array.getElem?_eq_some_iff.1 (allR_mem h1).1).1
  refine ⟨by simp [h.size], fun i hi' => ?_, fun i hb => ?_, ?_⟩
  · rw [testBit_or_pow]
    by_cases he : r.i = i
    · subst he
      have : r.i < listed.size := by rw [h.size]; exact hi
      simp [Array.getD, this]
    · rw [← h.bit i hi']
      simp [Array.getD_eq_getD_getElem?, Array.getElem?_setIfInBounds_ne he, he]
  · rw [testBit_or_pow] at hb
    simp only [Bool.or_eq_true, decide_eq_true_eq] at hb
    rcases hb with hb | hb
    · exact h.top i hb
    · omega
  · rw [without_eq, h.rest, List.filter_filter]
    apply List.filter_congr
    intro q hq
    rw [testBit_or_pow, Bool.not_or, Bool.and_comm]
    congr 1
    cases hb : Nat.beq q.i r.i with
    | true => have := Nat.eq_of_beq_eq_true hb; simp [this]
    | false =>
      have := Nat.ne_of_beq_eq_false hb
      simp
      exact fun e => this e.symm
theorem apartR_ok {x y : Rec} (hx : x.looks = lookM ops x.o) (hy : y.looks = lookM ops y.o) (h : apartR x y = true) : x.o.apart ops y.o = true := by
  unfold apartR at h
  simp only [Bool.and_eq_true, Bool.not_eq_true'] at h
  obtain ⟨h1, h2, h3⟩ := h
  have nb : ∀ {d : Option Tmp} {o : Oper} {mm : Nat}, mm = lookM ops o → hitM d mm = false → ∀ t, d = some t → (o.looksAt ops).contains t = false := by
    intro d o mm e hh t ht
    subst e ht
    simp only [hitM] at hh
    cases hc : (o.looksAt ops).contains t with
    | false => rfl
    | true =>
      rw [(lookM_bit ops o t).2 (by simpa using hc)] at hh
      cases hh
  unfold Oper.apart
  have e1 : ∀ t, x.o.dst = some t → ((y.o.looksAt ops).contains t = false ∧ y.o.dst ≠ some t) := by
    intro t ht
    refine ⟨nb hy h1 t ht, fun e => ?_⟩
    rw [ht, e] at h2
    simp only [sameD] at h2
    exact absurd rfl (Nat.ne_of_beq_eq_false h2)
  have e2 := nb hx h3
  cases hxd : x.o.dst with
  | none =>
    cases hyd : y.o.dst with
    | none => rfl
    | some t =>
      have h5 := e2 t hyd
      show (true && !(x.o.looksAt ops).contains t) = true
      rw [h5]; rfl
  | some t =>
    obtain ⟨a1, a2⟩ := e1 t hxd
    cases hyd : y.o.dst with
    | none =>
      show ((!(y.o.looksAt ops).contains t && (none != some t)) && true) = true
      rw [a1]; rfl
    | some u =>
      have hut : (some u != some t) = true := by
        have : ¬ u = t := fun e => a2 (by rw [hyd, e])
        simp [this]
      have h5 := e2 u hyd
      show ((!(y.o.looksAt ops).contains t && (some u != some t)) && !(x.o.looksAt ops).contains u) = true
      rw [a1, h5, hut]; rfl
theorem Corr.free (h : Corr ops m l listed) {r : Rec} (hr : r ∈ l) (hf : freeR l r = true) : Region.free .any ops listed r.i = true := by
  obtain ⟨h1, _⟩ := h.mem hr
  obtain ⟨g1, g2, g3⟩ := allR_mem h1
  unfold freeR at hf
  rw [allL_eq, List.all_eq_true] at hf
  unfold Region.free
  simp only [g1, List.all_eq_true, List.mem_range]
  intro j hj
  obtain ⟨q, hq, rfl⟩ := allR_ex hj
  obtain ⟨k1, k2, k3⟩ := allR_mem hq
  rw [k1]
  by_cases hij : q.i = r.i
  · simp [hij]
  rw [h.bit _ hj]
  cases hb : m.testBit q.i with
  | true => simp
  | false =>
    have hql : q ∈ l := by rw [h.rest]; exact List.mem_filter.2 ⟨hq, by simp [hb]⟩
    have := hf q hql
    simp only [Bool.or_eq_true] at this
    rcases this with h' | h' | h'
    · exact absurd (Nat.eq_of_beq_eq_true h') hij
    · rw [k2, depM_bit] at h'
      obtain ⟨e, he, hb2, hon⟩ := h'
      simp only [Bool.or_eq_true]
      right; left
      rw [Array.any_eq_true']
      exact ⟨e, he, by simp [hb2, hon]⟩
    · simp only [Bool.or_eq_true]
      right; right
      exact apartR_ok g3 k3 h'
theorem Corr.mem_ready (h : Corr ops m l listed) {r : Rec} (hr : r ∈ l) (hf : readyR m r = true) : r.i ∈ Region.ready .any ops listed := by
  rw [h.ready]
  exact List.mem_map.2 ⟨r, List.mem_filter.2 ⟨hr, hf⟩, rfl⟩
theorem plain_eq (fs : Nat) (l : List Rec) : plain fs l = l.filter (fun r => !fs.testBit r.i) := by
  induction l with
  | nil => rfl
  | cons r l ih =>
    show (Bool.rec (r :: plain fs l) (plain fs l) (fs.testBit r.i) : List Rec) = _
    rw [List.filter_cons, ih]
    cases fs.testBit r.i <;> rfl
theorem pendM_bit {fs i x : Nat} {q : Rec} : ∀ {l : List Rec}, q ∈ l → q.i = x → fs.testBit x = true → x ≠ i → (pendM fs i l).testBit x = true
  | r :: l, hq, hx, hf, hn => by
    show (Bool.rec (pendM fs i l) (pendM fs i l ||| 2 ^ r.i) (fs.testBit r.i && !Nat.beq r.i i) : Nat).testBit x = true
    rcases List.mem_cons.1 hq with rfl | hq
    · have hb : (fs.testBit q.i && !Nat.beq q.i i) = true := by
        rw [hx, hf]
        cases hc : Nat.beq x i with
        | false => rfl
        | true => exact absurd (Nat.eq_of_beq_eq_true hc) hn
      rw [hb]
      show (pendM fs i l ||| 2 ^ q.i).testBit x = true
      rw [testBit_or_pow, hx]; simp
    · have ih := pendM_bit (l := l) hq hx hf hn
      cases (fs.testBit r.i && !Nat.beq r.i i) with
      | false => exact ih
      | true =>
        show (pendM fs i l ||| 2 ^ r.i).testBit x = true
        rw [testBit_or_pow, ih]; rfl
theorem Corr.un_mem (h : Corr ops m l listed) {i : Nat} (hi : listed.getD i true = false) : ∃ r ∈ l, r.i = i := by
  have hs : i < ops.size := by
    rw [← h.size]
    rcases Nat.lt_or_ge i listed.size with h' | h'
    · exact h'
    · simp [Array.getElem?_eq_none h'] at hi
  obtain ⟨r, hr, e⟩ := allR_ex hs
  refine ⟨r, ?_, e⟩
  rw [h.rest]
  refine List.mem_filter.2 ⟨hr, ?_⟩
  rw [e, ← h.bit i hs, hi]; rfl
theorem Corr.wt (h : Corr ops m l listed) {fs r : Nat} (hw : wtB fs (allR ops) l r = true) : Wt ops (fun i => fs.testBit i) listed r := by
  intro i hf hne hun j oj hoj hjun ⟨e, he, hb, hon⟩
  have hf : fs.testBit i = true := hf
  unfold wtB at hw
  rw [Bool.or_eq_true, allL_eq, List.all_eq_true] at hw
  rcases hw with hw | hw
  · have := Nat.eq_of_beq_eq_true hw
    subst this
    simp at hf
  · obtain ⟨ri, hri, hrie⟩ := h.un_mem hun
    obtain ⟨q, hq, hqe⟩ := h.un_mem hjun
    obtain ⟨g1, g2, _⟩ := allR_mem (h.mem hq).1
    subst hqe
    rw [hoj] at g1
    injection g1 with g1
    have hd : q.deps.testBit i = true := by
      rw [g2, depM_bit, ← g1]
      exact ⟨e, he, hb, hon⟩
    have h2 := hw q hq
    rw [Bool.or_eq_true] at h2
    rcases h2 with h2 | h2
    · exfalso
      have := Nat.eq_of_beq_eq_true h2
      have h3 : (q.deps &&& pendM fs r l).testBit i = true := by
        rw [Nat.testBit_and, hd, pendM_bit hri hrie hf hne]; rfl
      rw [this] at h3
      simp at h3
    · exact waitsR_ok (by rw [hoj, g1]) g2 h2
theorem planGo_ok {fs : Nat} : ∀ (n : Nat) {m : Nat} {l : List Rec} {listed : Array Bool} {pl : List Stp}, Corr ops m l listed → planGo fs (allR ops) n m l = some pl → PlanOk ops (fun i => fs.testBit i) pl listed
  | n, m, l, listed, pl, hc, h => by
    have hrdy : ∀ {j}, j ∈ Region.ready .any ops listed → ∃ r ∈ l.filter (readyR m), r.i = j := fun {j} hj => by
      rw [hc.ready] at hj
      obtain ⟨r, h1, h2⟩ := List.mem_map.1 hj
      exact ⟨r, h1, h2⟩
    cases n with
    | zero =>
      unfold planGo at h
      split at h
      · rename_i hl
        injection h with h
        subst h
        rw [readyL_eq] at hl
        show Region.ready .any ops listed = []
        rw [hc.ready, hl]; rfl
      · cases h
    | succ n =>
      unfold planGo at h
      split at h
      · rename_i r hr
        obtain ⟨a1, a2, a3, a4⟩ := firstR_some hr
        split at h
        · rename_i p hf hp
          injection h with h
          subst h
          exact ⟨hf, hc.mem_ready a1 a3, hc.free a1 a4, trivial, planGo_ok n (hc.set a1) hp⟩
        · cases h
      · split at h
        · rename_i hpl
          rw [plain_eq, readyL_eq] at hpl
          have hallf : ∀ r ∈ l.filter (readyR m), fs.testBit r.i = true := fun r hr => by
            cases hb : fs.testBit r.i with
            | true => rfl
            | false =>
              have : r ∈ (l.filter (readyR m)).filter (fun r => !fs.testBit r.i) := List.mem_filter.2 ⟨hr, by rw [hb]; rfl⟩
              rw [hpl] at this; cases this
          split at h
          · rename_i hl
            injection h with h
            subst h
            rw [readyL_eq] at hl
            show Region.ready .any ops listed = []
            rw [hc.ready, hl]; rfl
          · rename_i r more hl
            rw [readyL_eq] at hl
            have hrl : r ∈ l.filter (readyR m) := by rw [hl]; exact List.mem_cons_self
            have hrl' := List.mem_filter.1 hrl
            split at h
            · rename_i p hw hp
              injection h with h
              subst h
              refine ⟨hallf r hrl, hc.mem_ready hrl'.1 hrl'.2, fun j hj => ?_, hc.wt hw, planGo_ok n (hc.set hrl'.1) hp⟩
              obtain ⟨q, hq, rfl⟩ := hrdy hj
              exact hallf q hq
            · cases h
        · rename_i r hpl
          rw [plain_eq, readyL_eq] at hpl
          have hrl : r ∈ (l.filter (readyR m)).filter (fun r => !fs.testBit r.i) := by rw [hpl]; exact List.mem_singleton_self r
          have hrl1 := List.mem_filter.1 hrl
          have hrl' := List.mem_filter.1 hrl1.1
          have hrf : fs.testBit r.i = false := by simpa using hrl1.2
          split at h
          · rename_i p hw hp
            injection h with h
            subst h
            refine ⟨hrf, hc.mem_ready hrl'.1 hrl'.2, fun j hj => ?_, hc.wt hw, planGo_ok n (hc.set hrl'.1) hp⟩
            obtain ⟨q, hq, rfl⟩ := hrdy hj
            cases hb : fs.testBit q.i with
            | true => exact .inr hb
            | false =>
              have : q ∈ (l.filter (readyR m)).filter (fun r => !fs.testBit r.i) := List.mem_filter.2 ⟨hq, by rw [hb]; rfl⟩
              rw [hpl] at this
              rw [List.mem_singleton.1 this]; exact .inl rfl
          · cases h
        · rename_i a b more hpl
          split at h
          · cases h
          · rename_i r hr
            obtain ⟨a1, a2, a3, a4⟩ := firstR_some hr
            split at h
            · rename_i n hpr
              rw [Bool.and_eq_true] at hpr
              obtain ⟨hfs, hpr⟩ := hpr
              have hfs := Nat.eq_of_beq_eq_true hfs
              subst hfs
              have hl : l.filter (readyR m) = [a, b] := by
                rw [plain_eq, readyL_eq] at hpl
                rw [← hpl]
                exact (List.filter_eq_self.2 (fun r _ => by simp)).symm
              have hal : a ∈ l.filter (readyR m) := by rw [hl]; simp
              have hbl : b ∈ l.filter (readyR m) := by rw [hl]; simp
              have ha := List.mem_filter.1 hal
              have hb := List.mem_filter.1 hbl
              unfold pairR at hpr
              simp only [Bool.and_eq_true, allL_eq, List.all_eq_true, Bool.or_eq_true, Bool.not_eq_true'] at hpr
              obtain ⟨⟨⟨⟨⟨p1, p2⟩, p3⟩, p4⟩, p5⟩, p6⟩ := hpr
              have hnd : ((l.filter (readyR m)).map (·.i)).Nodup := by
                rw [hc.rest, List.filter_filter]
                refine List.Nodup.sublist (List.Sublist.map _ List.filter_sublist) ?_
                rw [allR_map]
                exact List.nodup_range
              rw [hl] at hnd
              have hab : a.i ≠ b.i := by simpa using hnd
              have hba : Nat.beq b.i a.i = false := by
                cases hq : Nat.beq b.i a.i with
                | false => rfl
                | true => exact absurd (Nat.eq_of_beq_eq_true hq).symm hab
              have hba' : Nat.beq a.i b.i = false := by
                cases hq : Nat.beq a.i b.i with
                | false => rfl
                | true => exact absurd (Nat.eq_of_beq_eq_true hq) hab
              have haA := (hc.mem ha.1).1
              have hbA := (hc.mem hb.1).1
              have only : ∀ (x y : Rec), x ∈ l → y ∈ l → readyR m y = true → (∀ q ∈ l, readyR (m ||| 2 ^ x.i) q = true → q.i = x.i ∨ q.i = y.i) → (without x.i l).filter (readyR (m ||| 2 ^ x.i)) = (l.filter (readyR m)).filter (fun r => !Nat.beq r.i x.i) := by
                intro x y hx hy hry hq
                rw [without_eq, List.filter_filter, List.filter_filter]
                apply List.filter_congr
                intro q hql
                rw [Bool.and_comm]
                cases hqx : Nat.beq q.i x.i with
                | true => simp
                | false =>
                  simp only [Bool.not_false, Bool.true_and]
                  rw [Bool.eq_iff_iff]
                  constructor
                  · intro hqr
                    rcases hq q hql hqr with e | e
                    · exact absurd e (Nat.ne_of_beq_eq_false hqx)
                    · have : q = y := allR_inj (hc.mem hql).1 (hc.mem hy).1 e
                      rw [this]; exact hry
                  · exact readyR_mono
              have o1 := only a b ha.1 hb.1 hb.2 (fun q hql hqr => by
                rcases p6 q hql with e | e | ⟨e, _⟩
                · exact .inl (Nat.eq_of_beq_eq_true e)
                · exact .inr (Nat.eq_of_beq_eq_true e)
                · rw [hqr] at e; cases e)
              have o2 := only b a hb.1 ha.1 ha.2 (fun q hql hqr => by
                rcases p6 q hql with e | e | ⟨_, e⟩
                · exact .inr (Nat.eq_of_beq_eq_true e)
                · exact .inl (Nat.eq_of_beq_eq_true e)
                · rw [hqr] at e; cases e)
              rw [hl] at o1 o2
              simp only [List.filter_cons, Nat.beq_refl, hba, hba', Bool.not_true, Bool.not_false, List.filter_nil, if_true] at o1 o2
              simp only [Bool.false_eq_true, if_false] at o1 o2
              have hbw : b ∈ without a.i l := by
                rw [without_eq]; exact List.mem_filter.2 ⟨hb.1, by rw [hba]; rfl⟩
              split at h
              · rename_i p hp
                injection h with h
                subst h
                have q1 := planGo_ok n ((hc.set ha.1).set hbw) hp
                exact ⟨fun x => by simp, by rw [hc.ready, hl]; rfl, by rw [(hc.set ha.1).ready, o1]; rfl, by rw [(hc.set hb.1).ready, o2]; rfl, ⟨a.o, b.o, (allR_mem haA).1, (allR_mem hbA).1, by simpa using p3, by simpa using p4, apartR_ok (allR_mem haA).2.2 (allR_mem hbA).2.2 p5, hab⟩, q1⟩
              · cases h
            · split at h
              · rename_i p hf hp
                injection h with h
                subst h
                exact ⟨hf, hc.mem_ready a1 a3, hc.free a1 a4, trivial, planGo_ok _ (hc.set a1) hp⟩
              · cases h
theorem floM_bit {all : List Rec} {x : Nat} : ∀ {l : List Rec}, (floM all l).testBit x = true → ∃ r ∈ l, r.i = x ∧ floR all r = true
  | [], h => by
    have h' : (0 : Nat).testBit x = true := h
    simp at h'
  | r :: l, h => by
    have h' : (Bool.rec (floM all l) (floM all l ||| 2 ^ r.i) (floR all r) : Nat).testBit x = true := h
    cases hb : floR all r with
    | false =>
      rw [hb] at h'
      obtain ⟨q, hq, h1⟩ := floM_bit h'
      exact ⟨q, List.mem_cons_of_mem _ hq, h1⟩
    | true =>
      rw [hb] at h'
      have h' : (floM all l ||| 2 ^ r.i).testBit x = true := h'
      rw [testBit_or_pow, Bool.or_eq_true, decide_eq_true_iff] at h'
      rcases h' with h' | h'
      · obtain ⟨q, hq, h1⟩ := floM_bit h'
        exact ⟨q, List.mem_cons_of_mem _ hq, h1⟩
      · exact ⟨r, List.mem_cons_self, h', hb⟩
theorem flo_ok {P : Program} (hz : allL (zeroB P) ops.toList = true) : FloOk P ops (fun i => (floM (allR ops) (allR ops)).testBit i) := by
  intro i hi
  obtain ⟨r, hr, rfl, hf⟩ := floM_bit hi
  obtain ⟨g1, g2, g3⟩ := allR_mem hr
  unfold floR at hf
  simp only [Bool.and_eq_true] at hf
  obtain ⟨f1, f2, f3⟩ := hf
  have f2 := Nat.eq_of_beq_eq_true f2
  have hzr : zeroB P r.o = true := by
    rw [allL_eq, List.all_eq_true] at hz
    exact hz r.o (by simpa using Array.mem_of_getElem? g1)
  obtain ⟨ty, d, h1, h2, h3⟩ : ∃ ty d, r.o.op = .alloc ty ∧ r.o.dst = some d ∧ r.o.guard = none := by
    unfold isAlloc at f1
    split at f1
    · rename_i ty d e1 e2 e3
      exact ⟨ty, d, e1, e3, e2⟩
    · cases f1
  unfold zeroB at hzr
  rw [h1] at hzr
  simp only at hzr
  split at hzr
  · rename_i inf hinf
    obtain ⟨z, hzz⟩ := Option.isSome_iff_exists.1 hzr
    refine ⟨r.o, ty, d, inf, z, g1, h1, h2, h3, hinf, hzz, fun e he => ?_, fun j oj hj hne => ?_⟩
    · cases hb : Region.binds .any e with
      | false => rfl
      | true =>
        have := (depM_bit r.o e.on).2 ⟨e, he, hb, rfl⟩
        rw [← g2, f2] at this
        simp at this
    · unfold freeR at f3
      rw [allL_eq, List.all_eq_true] at f3
      have hjs : j < ops.size := (Array.getElem?_eq_some_iff.1 hj).1
      obtain ⟨q, hq, rfl⟩ := allR_ex hjs
      obtain ⟨k1, k2, k3⟩ := allR_mem hq
      rw [hj] at k1
      injection k1 with k1
      subst k1
      have := f3 q hq
      simp only [Bool.or_eq_true] at this
      rcases this with h' | h' | h'
      · exact absurd (Nat.eq_of_beq_eq_true h') hne
      · rw [k2, depM_bit] at h'
        exact .inl h'
      · exact .inr (apartR_ok g3 k3 h')
  · cases hzr
theorem plan_ok {pl : List Stp} {fs : Nat} (h : plan ops = some (fs, pl)) : Region.noSelect ops = true ∧ PlanOk ops (fun i => fs.testBit i) pl (Array.replicate ops.size false) ∧ (fs = 0 ∨ fs = floM (allR ops) (allR ops)) := by
  have h0 : Corr ops 0 (allR ops) (Array.replicate ops.size false) := ⟨by simp, fun i hi => by simp [Array.getD, hi], fun i hi => by simp at hi, by
    rw [List.filter_eq_self.2]
    intro r _
    simp⟩
  unfold plan at h
  split at h
  · rename_i hs
    unfold planW at h
    split at h
    · rename_i p hp
      injection h with h
      injection h with h1 h2
      subst h1 h2
      exact ⟨hs, planGo_ok _ h0 hp, .inl rfl⟩
    · split at h
      · rename_i p hp
        injection h with h
        injection h with h1 h2
        subst h1 h2
        exact ⟨hs, planGo_ok _ h0 hp, .inr rfl⟩
      · cases h
  · cases h
end
end Go.Proofs.YtjkonfopajihdaaDoor
set_option linter.unusedVariables false
set_option linter.unusedSectionVars false
set_option linter.unusedSimpArgs false
namespace Go.Proofs.YtjkonfopajihdaaDoor
open Go Go.RowKit

section
variable [Env] [Know]
variable {P : Program} {R : Rho}
theorem Inv.drawn {s : AS} {w : World} {fl b : Nat} (h : Inv R s w fl b) (n : Nat) : Inv R s { w with drawn := n } fl b := h.same rfl
theorem Went.drawn {R' : Rho} {s s' : AS} {w w' : World} {fl b n : Nat} (h : Went R R' s s' { w with drawn := n } w' fl b) : Went R R' s s' w w' fl b :=
  ⟨h.ext, h.old, h.num, h.keep, h.inv, ⟨h.below.os, h.below.tape, h.below.output, h.below.size, h.below.block⟩, h.fresh, h.more, h.wrote, h.other⟩
theorem evalRegion_ok (hK : KnowOk P) {call : CallE} (hcall : CallOk P call) (hm : P.follows .mixedOrders = true) {floor base : Nat} {id : Nat} {ops : Array Oper} {draw : Bool} {f f' : Fr} {s s' : AS} (h : evalRegion P call floor ops draw f s = some (f', s'))
    {w : World} {a : Act} (hI : Inv R s w floor base) (hf : FRel R f a.tmps) {Q : Exit → Act → World → Prop} (hQ : ∀ R' a' w', Went R R' s s' w w' floor base → FRel R' f' a'.tmps → a'.defers = a.defers → Q .normal a' w') :
    (Code.region id ops draw).wp P Q a w := by
  unfold evalRegion at h
  split at h
  · exact wp_region_list (evalSeq_ok hK hcall ops.toList h hI hf hQ)
  · split at h
    · rename_i fs pl hpl
      split at h
      · rename_i hz
        split at h
        · rename_i f1 s1 tf he
          injection h with h
          injection h with h1 h2
          subst h1 h2
          obtain ⟨hns, hp, hfs⟩ := plan_ok hpl
          have hfl : FloOk P ops (fun i => fs.testBit i) := by
            rcases hfs with rfl | rfl
            · intro i hi; simp at hi
            · rw [Bool.or_eq_true] at hz
              rcases hz with hz | hz
              · rw [Nat.eq_of_beq_eq_true hz]; intro i hi; simp at hi
              · exact flo_ok hz
          let Q0 : Exit → Act → World → Prop := fun e a' w' => e = .normal ∧ Q .normal a' w'
          refine wp_mono (Q := Q0) ?_ (fun e a' w' hq => by obtain ⟨rfl, hq⟩ := hq; exact hq)
          refine wp_region_any hm (wpAny_of_U (S := Stands R s { w with drawn := w.drawn + 1 } tf) _ ?_)
          have hI1 := hI.drawn (w.drawn + 1)
          have hdown : Down ops (Array.replicate ops.size false) := fun j o ho hj => by
            have hjs : j < ops.size := (Array.getElem?_eq_some_iff.1 ho).1
            simp [hjs] at hj
          exact evalPlan_ok (Q := Q0) hK hcall hns (fun c a w h => by cases h.1) hfl hI1 (a0 := a) (fun R' a' w' hg hf2 hd => ⟨rfl, hQ R' a' w' hg.drawn hf2 hd⟩) _ pl (T := []) (Nat.le_refl _) hp he
            hdown (by show (Array.replicate ops.size false).toList.count false ≤ ops.size; rw [Array.toList_replicate, List.count_replicate]; simp) (fun t ht => by cases ht) .nil (Went.refl hI1) hf rfl (fun _ _ _ _ => rfl) (fun _ _ _ _ _ _ _ => rfl) (fun p hp => by cases hp)
        · cases h
      · cases h
    · cases h
def AX.out : AX → Exit
  | .normal => .normal
  | .exit id => .exit id
  | .goto l => .goto l
  | .ret => .ret
def FinE (R : Rho) (s : AS) (w : World) (a : Act) (floor base : Nat) (x : AX) (f' : Fr) (s' : AS) (e : Exit) (a' : Act) (w' : World) : Prop :=
  e = x.out ∧ ∃ R', Went R R' s s' w w' floor base ∧ FRel R' f' a'.tmps ∧ a'.defers = a.defers
def CodeOk (P : Program) (code : CodeE) : Prop := ∀ {floor : Nat} {c : Code} {f : Fr} {s : AS} {x : AX} {f' : Fr} {s' : AS}, code floor c f s = some (x, f', s') →
  ∀ {R : Rho} {w : World} {base : Nat} {a : Act}, Inv R s w floor base → FRel R f a.tmps → c.wp P (FinE R s w a floor base x f' s') a w
def LoopOk (P : Program) (code : CodeE) : Prop := ∀ {floor : Nat} {c : Code} {f : Fr} {s : AS} {x : AX} {f' : Fr} {s' : AS}, code floor c f s = some (x, f', s') →
  ∀ {R : Rho} {w : World} {base : Nat} {a : Act}, Inv R s w floor base → FRel R f a.tmps → ∀ (b : Frame) (k : List Item) (cs : List Frame),
    ∃ e a' w', FinE R s w a floor base x f' s' e a' w' ∧ Arrives P (lone (b.at a (.code c :: .inLoop c :: k)) cs w) b k cs e a' w'
def ScopeOk (P : Program) (code : Nat → Code → Code → Fr → AS → Option (AX × Fr × AS)) : Prop := ∀ {floor : Nat} {c cur : Code} {f : Fr} {s : AS} {x : AX} {f' : Fr} {s' : AS}, code floor c cur f s = some (x, f', s') →
  ∀ {R : Rho} {w : World} {base : Nat} {a : Act}, Inv R s w floor base → FRel R f a.tmps → ∀ (b : Frame) (k : List Item) (cs : List Frame),
    ∃ e a' w', FinE R s w a floor base x f' s' e a' w' ∧ Arrives P (lone (b.at a (.code cur :: .inScope c :: k)) cs w) b k cs e a' w'
structure EvOk (P : Program) (E : Ev) : Prop where
  code : CodeOk P E.code
  loop : LoopOk P E.loop
  scope : ScopeOk P E.scope
  call : CallOk P E.call
theorem FinE.trans {R R1 : Rho} {s s1 s2 : AS} {w w1 : World} {a a1 : Act} {fl b : Nat} {x : AX} {f2 : Fr} {e : Exit} {a' : Act} {w' : World} (h : Went R R1 s s1 w w1 fl b) (hd : a1.defers = a.defers) (h2 : FinE R1 s1 w1 a1 fl b x f2 s2 e a' w') :
    FinE R s w a fl b x f2 s2 e a' w' :=
  let ⟨he, R', hg, hf, hd2⟩ := h2
  ⟨he, R', h.trans hg, hf, hd2.trans hd⟩
theorem codeStep_ok (hK : KnowOk P) {E : Ev} (hE : EvOk P E) (hm : P.follows .mixedOrders = true) : CodeOk P (codeStep P E) := by
  intro floor c f s x f' s' h R w base a hI hf
  unfold codeStep at h
  split at h
  · injection h with h; injection h with h1 h; injection h with h2 h3; subst h1 h2 h3
    exact wp_skip ⟨rfl, R, Went.refl hI, hf, rfl⟩
  · injection h with h; injection h with h1 h; injection h with h2 h3; subst h1 h2 h3
    exact wp_label ⟨rfl, R, Went.refl hI, hf, rfl⟩
  · rename_i id ops draw
    unfold codeRegion at h
    split at h
    · rename_i f1 s1 he
      rw [forceF_eq] at h
      injection h with h; injection h with h1 h; injection h with h2 h3; subst h1 h2 h3
      exact evalRegion_ok hK hE.call hm he hI hf fun R' a' w' hg hf2 hd => ⟨rfl, R', hg, hf2, hd⟩
    · cases h
  · rename_i p q
    unfold codeSeq at h
    refine wp_seq ?_
    cases he : E.code floor p f s with
    | none => rw [he] at h; cases h
    | some r =>
      obtain ⟨x1, f1, s1⟩ := r
      rw [he] at h
      refine wp_mono (hE.code he hI hf) fun e a1 w1 hq => ?_
      obtain ⟨hx, R1, hg, hf1, hd⟩ := hq
      subst hx
      cases x1 with
      | normal => exact wp_mono (hE.code h hg.inv hf1) fun e a2 w2 hq2 => FinE.trans hg hd hq2
      | exit id => injection h with h; injection h with h1 h; injection h with h2 h3; subst h1 h2 h3; exact ⟨rfl, R1, hg, hf1, hd⟩
      | goto l => injection h with h; injection h with h1 h; injection h with h2 h3; subst h1 h2 h3; exact ⟨rfl, R1, hg, hf1, hd⟩
      | ret => injection h with h; injection h with h1 h; injection h with h2 h3; subst h1 h2 h3; exact ⟨rfl, R1, hg, hf1, hd⟩
  · rename_i o p q
    unfold codeCond at h
    have hr := opnd_ok hf o
    split at h
    · rename_i e; rw [e] at hr; exact wp_cond_true (lit_inv hr) (hE.code h hI hf)
    · rename_i e; rw [e] at hr; exact wp_cond_false (lit_inv hr) (hE.code h hI hf)
    · cases h
  · rename_i id p
    unfold codeBlock at h
    refine wp_block ?_
    cases he : E.code floor p f s with
    | none => rw [he] at h; cases h
    | some r =>
      obtain ⟨x1, f1, s1⟩ := r
      rw [he] at h
      refine wp_mono (hE.code he hI hf) fun e a1 w1 hq => ?_
      obtain ⟨hx, R1, hg, hf1, hd⟩ := hq
      subst hx
      cases x1 with
      | exit j =>
        simp only at h
        show (if j = id then _ else _)
        split at h
        · rename_i hb
          have hb := Nat.eq_of_beq_eq_true hb
          rw [if_pos hb]
          injection h with h; injection h with h1 h; injection h with h2 h3; subst h1 h2 h3
          exact ⟨rfl, R1, hg, hf1, hd⟩
        · rename_i hb
          have hb := Nat.ne_of_beq_eq_false hb
          rw [if_neg hb]
          injection h with h; injection h with h1 h; injection h with h2 h3; subst h1 h2 h3
          exact ⟨rfl, R1, hg, hf1, hd⟩
      | normal => injection h with h; injection h with h1 h; injection h with h2 h3; subst h1 h2 h3; exact ⟨rfl, R1, hg, hf1, hd⟩
      | goto l => injection h with h; injection h with h1 h; injection h with h2 h3; subst h1 h2 h3; exact ⟨rfl, R1, hg, hf1, hd⟩
      | ret => injection h with h; injection h with h1 h; injection h with h2 h3; subst h1 h2 h3; exact ⟨rfl, R1, hg, hf1, hd⟩
  · rename_i p
    intro b k cs
    obtain ⟨e, a', w', hq, harr⟩ := hE.loop h hI hf b k cs
    exact ⟨e, a', w', hq, .of_steps (.one step_loop) harr⟩
  · rename_i p
    intro b k cs
    obtain ⟨e, a', w', hq, harr⟩ := hE.scope h hI hf b k cs
    exact ⟨e, a', w', hq, .of_steps (.one step_scope) harr⟩
  · injection h with h; injection h with h1 h; injection h with h2 h3; subst h1 h2 h3
    exact wp_exit ⟨rfl, R, Went.refl hI, hf, rfl⟩
  · injection h with h; injection h with h1 h; injection h with h2 h3; subst h1 h2 h3
    exact wp_goto ⟨rfl, R, Went.refl hI, hf, rfl⟩
  · injection h with h; injection h with h1 h; injection h with h2 h3; subst h1 h2 h3
    exact wp_ret ⟨rfl, R, Went.refl hI, hf, rfl⟩
  · cases h
theorem loopStep_ok {E : Ev} (hE : EvOk P E) : LoopOk P (loopStep E) := by
  intro floor c f s x f' s' h R w base a hI hf b k cs
  unfold loopStep at h
  cases he : E.code floor c f s with
  | none => rw [he] at h; cases h
  | some r =>
    obtain ⟨x1, f1, s1⟩ := r
    rw [he] at h
    obtain ⟨e, a1, w1, hq, harr⟩ := hE.code he hI hf b (.inLoop c :: k) cs
    obtain ⟨hx, R1, hg, hf1, hd⟩ := hq
    subst hx
    cases x1 with
    | normal =>
      obtain ⟨e2, a2, w2, hq2, harr2⟩ := hE.loop h hg.inv hf1 b k cs
      exact ⟨e2, a2, w2, FinE.trans hg hd hq2, .of_steps (Steps.trans harr (.one step_inLoop)) harr2⟩
    | exit id =>
      injection h with h; injection h with h1 h; injection h with h2 h3; subst h1 h2 h3
      exact ⟨_, a1, w1, ⟨rfl, R1, hg, hf1, hd⟩, .pass (x := .inLoop c) rfl (fun _ _ => .inl (by simp [AX.out])) harr⟩
    | goto l =>
      injection h with h; injection h with h1 h; injection h with h2 h3; subst h1 h2 h3
      exact ⟨_, a1, w1, ⟨rfl, R1, hg, hf1, hd⟩, .pass (x := .inLoop c) rfl (fun _ _ => .inl (by simp [AX.out])) harr⟩
    | ret =>
      injection h with h; injection h with h1 h; injection h with h2 h3; subst h1 h2 h3
      exact ⟨_, a1, w1, ⟨rfl, R1, hg, hf1, hd⟩, .pass (x := .inLoop c) rfl (fun _ _ => .inl (by simp [AX.out])) harr⟩
theorem scopeStep_ok {E : Ev} (hE : EvOk P E) : ScopeOk P (scopeStep E) := by
  intro floor c cur f s x f' s' h R w base a hI hf b k cs
  unfold scopeStep at h
  cases he : E.code floor cur f s with
  | none => rw [he] at h; cases h
  | some r =>
    obtain ⟨x1, f1, s1⟩ := r
    rw [he] at h
    obtain ⟨e, a1, w1, hq, harr⟩ := hE.code he hI hf b (.inScope c :: k) cs
    obtain ⟨hx, R1, hg, hf1, hd⟩ := hq
    subst hx
    cases x1 with
    | normal =>
      injection h with h; injection h with h1 h; injection h with h2 h3; subst h1 h2 h3
      exact ⟨_, a1, w1, ⟨rfl, R1, hg, hf1, hd⟩, Steps.trans harr (.one step_inScope)⟩
    | exit id =>
      injection h with h; injection h with h1 h; injection h with h2 h3; subst h1 h2 h3
      exact ⟨_, a1, w1, ⟨rfl, R1, hg, hf1, hd⟩, fun k' hk => harr k' (by simp [exitTo, hk])⟩
    | goto l =>
      simp only at h
      cases hl : findLabel c l with
      | some rest =>
        rw [hl] at h
        have hgo : gotoIn l (.inScope c :: k) = some (.code rest :: .inScope c :: k) := by simp [gotoIn, hl]
        obtain ⟨e2, a2, w2, hq2, harr2⟩ := hE.scope h hg.inv hf1 b k cs
        exact ⟨e2, a2, w2, FinE.trans hg hd hq2, .of_steps (harr _ hgo) harr2⟩
      | none =>
        rw [hl] at h
        injection h with h; injection h with h1 h; injection h with h2 h3; subst h1 h2 h3
        exact ⟨_, a1, w1, ⟨rfl, R1, hg, hf1, hd⟩, fun k' hk => harr k' (by simp [gotoIn, hl, hk])⟩
    | ret =>
      injection h with h; injection h with h1 h; injection h with h2 h3; subst h1 h2 h3
      exact ⟨_, a1, w1, ⟨rfl, R1, hg, hf1, hd⟩, harr⟩
def resF (tmps : Array Value) : ResultVar → Sem Value
  | .tmp t => pure (tmps.getD t undef)
  | .cell a t => do loadVar t (← asAddr (tmps.getD a undef))
theorem results_eq (fn : Func) (tmps : Array Value) : results fn tmps = (do let vs ← fn.results.mapM (resF tmps); pure (if h : vs.size = 1 then vs[0] else .tuple vs)) := by
  have : (fun (r : ResultVar) => (match r with
      | .tmp t => pure (tmps.getD t undef)
      | .cell a t => do loadVar t (← asAddr (tmps.getD a undef)) : Sem Value)) = resF tmps := funext fun r => by cases r <;> rfl
  unfold results
  rw [← this]
  rfl
theorem resA_ok {s : AS} {w : World} {fl b : Nat} (hI : Inv R s w fl b) {f : Fr} {tmps : Array Value} (hf : FRel R f tmps) : ∀ {l : List ResultVar} {vs : List AV}, resA P f s l = some vs →
    ∃ xs, VRels R vs xs ∧ (l.mapM (resF tmps)).run P w = .ok xs w
  | [], vs, h => by
    simp only [resA] at h
    injection h with h; subst h
    exact ⟨[], VRels.nil, rfl⟩
  | .tmp t :: r, vs, h => by
    simp only [resA] at h
    split at h
    · rename_i l' hl
      injection h with h; subst h
      obtain ⟨xs, h1, h2⟩ := resA_ok hI hf hl
      have := opnd_ok (a := ⟨tmps, []⟩) hf (.tmp t)
      exact ⟨_, VRels.cons this h1, by rw [List.mapM_cons]; simp only [resF, Sem.run_bind, Sem.run_pure, Result.andThen_ok, h2]; rfl⟩
    · cases h
  | .cell p t :: r, vs, h => by
    simp only [resA] at h
    split at h
    · rename_i k off e1
      split at h
      · rename_i B hB
        split at h
        · rename_i v l' hv hl
          injection h with h; subst h
          obtain ⟨xs, h1, h2⟩ := resA_ok hI hf hl
          have hp := opnd_ok (a := ⟨tmps, []⟩) hf (.tmp p)
          have e1' : opnd f (.tmp p) = .ptr k off := e1
          rw [e1'] at hp
          obtain ⟨b, T, r3, r4⟩ := ptr_inv hp
          have r4' : tmps.getD p undef = .pointer (some ⟨b, off, none⟩) := r4
          obtain ⟨b', T', r5, r6⟩ := hI.rel.blk hB
          obtain ⟨rfl, rfl⟩ := hI.rel.fn r3 r5
          obtain ⟨y, hy, hrun⟩ := load_ok (P := P) hv r6
          have hrun := hrun w rfl
          have : (loadVar t ⟨b, off, none⟩).run P w = .ok y w := by simpa [Instr.loadAt, Instr.sureAddr] using hrun
          refine ⟨_, VRels.cons hy h1, ?_⟩
          have hr1 : (resF tmps (.cell p t)).run P w = .ok y w := by
            simp only [resF, r4', asAddr, Sem.run_bind, Sem.run_pure, Result.andThen_ok, this]
          rw [List.mapM_cons]
          simp only [Sem.run_bind, Sem.run_pure, Result.andThen_ok, hr1, h2]
        · cases h
      · cases h
    · cases h
theorem look_dropNew_lt {j n : Nat} (hj : j < n) : ∀ {h : List (Nat × List AV)}, look j (dropNew n h) = look j h
  | [] => rfl
  | p :: h => by
    rw [dropNew_cons]
    split
    · rw [look_cons, if_neg (by omega), look_dropNew_lt hj]
    · rw [look_cons, look_cons, look_dropNew_lt hj]
theorem Went.end_ {R' : Rho} {s s' : AS} {w w' : World} {fl b : Nat} (hI : Inv R s w fl b) (h : Went R R' ⟨s.n, s.h, [], s.gl⟩ s' w w' fl b) : Went R R' s ⟨s'.n, s'.h, unionW (oldW s.n s'.wr) s.wr, s'.gl⟩ w w' fl b :=
  ⟨h.ext, h.old, h.num, h.keep, h.inv.wr_ _, h.below, h.fresh, fun _ hk => unionW_iff.2 (.inr hk), fun hk r hn => h.wrote hk r (fun hc => hn (unionW_iff.2 (.inl (oldW_iff.2 ⟨hc, (hI.rel.dom r).1⟩)))), h.other⟩
theorem Went.drop {R' : Rho} {s s' : AS} {w w' : World} {fl b : Nat} (hI : Inv R s w fl b) (h : Went R R' ⟨s.n, s.h, [], s.gl⟩ s' w w' fl b) : Went R R' s ⟨s'.n, dropNew s.n s'.h, unionW (oldW s.n s'.wr) s.wr, s'.gl⟩ w w' fl b :=
  have h' := h.end_ hI
  ⟨h'.ext, h'.old, h'.num, fun k hk => (look_dropNew_lt (by have := hI.hf; omega)).trans (h'.keep k hk),
    ⟨⟨h'.inv.rel.fn, h'.inv.rel.dom, fun h1 h2 r1 r2 => h'.inv.rel.inj (look_dropNew_some h1) (look_dropNew_some h2) r1 r2, fun h1 => h'.inv.rel.blk (look_dropNew_some h1)⟩, h'.inv.hb, h'.inv.hf, h'.inv.own, h'.inv.glo, h'.inv.kgl⟩, h'.below, h'.fresh, h'.more,
    fun hk r hn => let ⟨c1, c2⟩ := h'.wrote hk r hn; ⟨c1, (look_dropNew_lt (hI.rel.dom r).1).trans c2⟩, h'.other⟩
theorem callStep_ok {E : Ev} (hE : EvOk P E) : CallOk P (callStep P E) := by
  intro floor g l s v s' h R w base xs hI hl
  unfold callStep at h
  split at h
  · rename_i fn hfn
    split at h
    · rename_i c hc
      have hlen := hl.length
      have hf0 : FRel R (frame fn.ntmps l) (xs.toArray ++ Array.replicate (fn.ntmps - xs.toArray.size) undef) := frame_ok hl
      have body : ∀ {x : AX} {f1 : Fr} {s1 : AS}, E.code floor c (frame fn.ntmps l) ⟨s.n, s.h, [], s.gl⟩ = some (x, f1, s1) → (x = .normal ∨ x = .ret) →
          ∀ {vs : List AV}, resA P f1 s1 fn.results.toList = some vs → ∀ {s2 : AS} {u : AV}, (∀ {R' : Rho} {w' : World}, Went R R' ⟨s.n, s.h, [], s.gl⟩ s1 w w' floor base → Went R R' s s2 w w' floor base) →
          (∀ {R' : Rho} {ys : List Value}, VRels R' vs ys → VRel R' u (if h : ys.toArray.size = 1 then ys.toArray[0] else .tuple ys.toArray)) →
          Calls P g xs.toArray w fun e w' => ∃ R' x, e = .returned x ∧ VRel R' u x ∧ Went R R' s s2 w w' floor base := by
        intro x f1 s1 he hx vs hvs s2 u hs hu
        refine calls_of_wp hfn hc ?_
        refine wp_mono (hE.code he (hI.wr_ []) (a := { tmps := xs.toArray ++ Array.replicate (fn.ntmps - xs.toArray.size) undef, defers := [] }) hf0) fun e a1 w1 hq => ?_
        obtain ⟨hx', R1, hg, hf1, hd⟩ := hq
        obtain ⟨ys, h1, h2⟩ := resA_ok (P := P) hg.inv hf1 hvs
        have hres : (results fn a1.tmps).run P w1 = .ok (if h : ys.toArray.size = 1 then ys.toArray[0] else .tuple ys.toArray) w1 := by
          rw [results_eq, Array.mapM_eq_mapM_toList]
          simp only [Sem.run_bind, Sem.run_map, h2, Result.andThen_ok, Sem.run_pure]
        have fin : a1.defers = [] ∧ ∃ v, (results fn a1.tmps).run P w1 = .ok v w1 ∧ ∃ R' x, Ending.returned v = .returned x ∧ VRel R' u x ∧ Went R R' s s2 w w1 floor base :=
          ⟨hd, _, hres, R1, _, rfl, hu h1, hs hg⟩
        rcases hx with rfl | rfl
        · subst hx'; exact fin
        · subst hx'; exact fin
      have main : ∀ {x : AX} {f1 : Fr} {s1 : AS}, E.code floor c (frame fn.ntmps l) ⟨s.n, s.h, [], s.gl⟩ = some (x, f1, s1) → (x = .normal ∨ x = .ret) →
          (match resA P f1 s1 fn.results.toList with
            | some [v] => match isLit v && allL isLit l with
              | true => some (v, (⟨s1.n, dropNew s.n s1.h, unionW (oldW s.n s1.wr) s.wr, s1.gl⟩ : AS))
              | false => some (v, (⟨s1.n, s1.h, unionW (oldW s.n s1.wr) s.wr, s1.gl⟩ : AS))
            | some vs => match isLit (mkTup vs) && allL isLit l with
              | true => some (mkTup vs, (⟨s1.n, dropNew s.n s1.h, unionW (oldW s.n s1.wr) s.wr, s1.gl⟩ : AS))
              | false => some (mkTup vs, (⟨s1.n, s1.h, unionW (oldW s.n s1.wr) s.wr, s1.gl⟩ : AS))
            | none => none) = some (v, s') → Calls P g xs.toArray w fun e w' => ∃ R' x, e = .returned x ∧ VRel R' v x ∧ Went R R' s s' w w' floor base := by
        intro x f1 s1 he hx h
        split at h
        · rename_i u hvs
          have hu : ∀ {R' : Rho} {ys : List Value}, VRels R' [u] ys → VRel R' u (if h : ys.toArray.size = 1 then ys.toArray[0] else .tuple ys.toArray) := by
            intro R' ys hy
            simp only [VRels] at hy
            obtain ⟨y, ys', rfl, h1, rfl⟩ := hy
            simpa using h1
          split at h
          · injection h with h; injection h with h1 h2; subst h1 h2
            exact body he hx hvs (fun hg => hg.drop hI) hu
          · injection h with h; injection h with h1 h2; subst h1 h2
            exact body he hx hvs (fun hg => hg.end_ hI) hu
        · rename_i vs hne hvs
          have hu : ∀ {R' : Rho} {ys : List Value}, VRels R' vs ys → VRel R' (mkTup vs) (if h : ys.toArray.size = 1 then ys.toArray[0] else .tuple ys.toArray) := by
            intro R' ys hy
            have hl := hy.length
            rw [dif_neg]
            · exact VRel.mkTup hy
            · intro h1
              have h1 : vs.length = 1 := by simp at h1; omega
              obtain ⟨u, rfl⟩ := List.length_eq_one_iff.1 h1
              exact hne u rfl
          split at h
          · injection h with h; injection h with h1 h2; subst h1 h2
            exact body he hx hvs (fun hg => hg.drop hI) hu
          · injection h with h; injection h with h1 h2; subst h1 h2
            exact body he hx hvs (fun hg => hg.end_ hI) hu
        · cases h
      split at h
      · rename_i f1 s1 he; exact main he (.inl rfl) h
      · rename_i f1 s1 he; exact main he (.inr rfl) h
      · cases h
    · cases h
  · cases h
/-- Nothing that stood there has turned, and nothing of it was written. -/
theorem Went.far {s : AS} {w w' : World} {fl b : Nat} (hI : Inv R s w fl b) (hb : Below w.heap.size w w') : Went R R s s w w' fl b :=
  ⟨Ext.refl _, fun r _ => r, Nat.le_refl _, fun _ _ => rfl, ⟨hI.rel.below hb, Nat.le_trans hI.hb hb.size, hI.hf, hI.own, fun hg => hI.glo_below hg (hb.mono hI.hb), hI.kgl⟩, hb.mono hI.hb, fun r => .inl ⟨_, _, r⟩, fun _ h => h,
    fun _ r _ => ⟨hb.block _ (hI.rel.dom r).2, rfl⟩, fun k hk _ => hb.block k hk⟩
theorem knowCall_ok (hK : KnowOk P) {call : CallE} (hcall : CallOk P call) : CallOk P (knowCall call) := by
  intro floor g l s v s' h R w base xs hI hl
  unfold knowCall at h
  split at h
  · rename_i r hr
    injection h with h
    injection h with h1 h2
    subst h1 h2
    obtain ⟨h3, h4⟩ := findC_ok hr
    obtain ⟨h5, h6⟩ := hK.call _ _ _ h3
    rw [mapL_eq] at h3 h4
    rw [mapL_eq] at h6
    exact (h6 w xs hI.globs (flats_ok hI h4 hl)).mono fun e w' ⟨he, hb⟩ => ⟨R, gval r, he, ground_ok h5, Went.far hI hb⟩
  · exact hcall h hI hl
theorem ev_ok (hK : KnowOk P) (hm : P.follows .mixedOrders = true) : ∀ n, EvOk P (ev P n)
  | 0 => ⟨fun h => (by cases h), fun h => (by cases h), fun h => (by cases h), fun h => (by cases h)⟩
  | n + 1 =>
    have hE := ev_ok hK hm n
    ⟨codeStep_ok hK hE hm, loopStep_ok hE, scopeStep_ok hE, knowCall_ok hK (callStep_ok hE)⟩
theorem inv0 {w : World} (hg : Globs Env.gl w) : Inv (fun _ _ _ => False) ⟨0, [], [], Env.gl⟩ w 0 w.heap.size :=
  ⟨⟨fun h => h.elim, fun h => h.elim, (fun h => by cases h), (fun h => by cases h)⟩, Nat.le_refl _, Nat.le_refl _, fun h => h.elim, fun h => hg _ _ h, rfl⟩
/-- A RUN WITH LETTERS: what the kernel reckons is what the call comes to, in whatever memory that holds the variables, if the tables are right. -/
theorem sym_ok (hK : KnowOk P) (hm : P.follows .mixedOrders = true) {n : Nat} {g : FuncId} {l : List AV} {v : AV} (h : comes P Env.gl n g l = some v) (hl : l.all ground = true) (hv : ground v = true) {w : World} (hg : Globs Env.gl w) :
    Calls P g (l.map gval).toArray w fun e w' => e = .returned (gval v) ∧ Below w.heap.size w w' := by
  unfold comes at h
  split at h
  · rename_i u s he
    injection h with h
    subst h
    exact ((ev_ok hK hm n).call he (inv0 hg) (grounds_ok hl)).mono fun e w' ⟨R', x, he, hx, hg⟩ => ⟨by rw [he, VRel.uniq hv hx], hg.below⟩
  · cases h
theorem lit_ok (hK : KnowOk P) (hm : P.follows .mixedOrders = true) {n : Nat} {g : FuncId} {l : List Value} {v : Value} {s : AS} (h : (ev P n).call 0 g (l.map .lit) ⟨0, [], [], Env.gl⟩ = some (.lit v, s)) {w : World} (hg : Globs Env.gl w) :
    Calls P g l.toArray w fun e w' => e = .returned v ∧ Below w.heap.size w w' :=
  ((ev_ok hK hm n).call h (inv0 hg) (VRels.lits_ l)).mono fun e w' ⟨R', x, he, hx, hg⟩ => ⟨by rw [he, lit_inv hx], hg.below⟩
end
section
variable {P : Program}
theorem Globs.nil (w : World) : Globs [] w := fun _ _ h => by cases h
@[reducible] noncomputable def noEnv (gl : List (Nat × List AV)) : Env := ⟨fun _ => .int .i64 0, fun _ => rfl, gl⟩
theorem noKnow_ok (gl : List (Nat × List AV)) : @KnowOk (noEnv gl) noKnow P := @KnowOk.mk (noEnv gl) noKnow P (fun _ _ _ h => by cases h) (fun _ _ _ h => by cases h)
/-- A CLOSED RUN: what the kernel reckons is what the call comes to, in whatever memory, whatever the tape. -/
theorem closed_ok (hm : P.follows .mixedOrders = true) {n : Nat} {g : FuncId} {l : List Value} {v : Value} {s : AS} {gl : List (Nat × List AV)} (h : (@ev noKnow P n).call 0 g (mapL .lit l) ⟨0, [], [], gl⟩ = some (.lit v, s)) {w : World} (hg : Globs gl w) :
    Calls P g l.toArray w fun e w' => e = .returned v ∧ Below w.heap.size w w' := by
  rw [mapL_eq] at h
  exact @lit_ok (noEnv gl) noKnow P (noKnow_ok gl) hm n g l v s h w hg
theorem closed_with (hm : P.follows .mixedOrders = true) {gl : List (Nat × List AV)} {n : Nat} {g : FuncId} {l : List Value} {b : Bool} (h : saysG P gl n g l b = true) {w : World} (hg : Globs gl w) :
    Calls P g l.toArray w fun e w' => e = .returned (.bool b) ∧ Below w.heap.size w w' := by
  unfold saysG at h
  split at h
  · rename_i c s he
    have e : c = b := by simpa using h
    subst e
    exact closed_ok hm he hg
  · cases h
theorem closed_bool (hm : P.follows .mixedOrders = true) {n : Nat} {g : FuncId} {b : Bool} (h : saysB P n g b = true) (w : World) :
    Calls P g #[] w fun e w' => e = .returned (.bool b) ∧ Below w.heap.size w w' := closed_with hm (l := []) h (Globs.nil w)
end
end Go.Proofs.YtjkonfopajihdaaDoor
set_option linter.unusedSimpArgs false
set_option linter.unusedVariables false
namespace Go.Proofs.YtjkonfopajihdaaDoor
open Go Go.RowKit

theorem size_of_cell {w : World} {b o : Nat} {v : Value} (h : w.cell? ⟨b, o, none⟩ = some v) : b < w.heap.size := by
  unfold World.cell? at h
  cases hb : w.heap[b]? with
  | none => simp [hb] at h
  | some x => exact (Array.getElem?_eq_some_iff.1 hb).1
theorem gDe : Tryd.prog.globalNamed "math/bits.deBruijn64tab" = some 1 := by kernel_rfl
theorem gDeType : (Tryd.prog.globals[1]?).map (·.type) = some 142 := by kernel_rfl
theorem cDe : Tryd.prog.cellsOf 142 = 64 := by kernel_rfl
theorem cU8 : Tryd.prog.cellsOf 5 = 1 := by kernel_rfl
def glT : List (Nat × List AV) := [(1, Lib.deBruijn64tab.map fun (x : Nat) => AV.lit (.int .u8 (x : Nat)))]
theorem globs_of {W : World} {laid : List (String × DataW Unit)} (hl : laid.filter (fun x => x.1 == "math/bits.deBruijn64tab") = [("math/bits.deBruijn64tab", Rows.laid_math_bits_deBruijn64tab)]) (hL : laidMetH Tryd.prog laid W) : Globs glT W := by
  have h := hL.filter (fun x => x.1 == "math/bits.deBruijn64tab")
  rw [hl] at h
  have h1 : Lib.TabIs Tryd.prog W "math/bits.deBruijn64tab" .u8 (Lib.deBruijn64tab.map Int.ofNat) := Lib.tabIs_of_head (rest := []) gDe gDeType Tryd.underlying142 Tryd.underlying5 cU8 cDe h
  have hlen : Lib.deBruijn64tab.length = 64 := by decide
  have c1 : ∀ j, j < 64 → W.cell? ⟨1, j, none⟩ = some (.int .u8 ((Lib.deBruijn64tab.getD j 0 : Nat) : Int)) := fun j hj => by
    have := h1.cell gDe j (by rw [List.length_map, hlen]; exact hj)
    rw [this]; simp [List.getD]
    cases Lib.deBruijn64tab[j]? <;> rfl
  intro g B hB
  unfold glT at hB
  rw [look_cons] at hB
  split at hB
  · rename_i e
    injection hB with hB
    have e : 1 = g := e
    subst e hB
    refine ⟨size_of_cell (c1 0 (by decide)), fun i v hv => ?_⟩
    have hi : i < 64 := by
      have := (List.getElem?_eq_some_iff.1 hv).1
      rw [List.length_map, hlen] at this; exact this
    rw [List.getElem?_map] at hv
    cases hx : Lib.deBruijn64tab[i]? with
    | none => rw [hx] at hv; cases hv
    | some x =>
      rw [hx] at hv
      injection hv with hv
      refine ⟨_, hv.symm, ?_⟩
      rw [c1 i hi]
      simp [List.getD, hx]
  · cases hB
end Go.Proofs.YtjkonfopajihdaaDoor
set_option linter.unusedSimpArgs false
set_option linter.unusedVariables false
namespace Go.Proofs.YtjkonfopajihdaaDoor
open Go Go.RowKit

set_option maxRecDepth 100000 in
theorem awake3_says : saysG Tryd.prog glT 5000 19 [] true = true := by kernel_rfl
theorem awake3_c (w : World) (hg : Globs glT w) : Calls Tryd.prog 19 #[] w fun e w' => e = .returned (.bool true) ∧ Below w.heap.size w w' := closed_with (by kernel_rfl) awake3_says hg
theorem Globs.below {gl : List (Nat × List AV)} {w w' : World} (h : Globs gl w) {n : Nat} (hb : Below n w w') (hn : w.heap.size ≤ n) : Globs gl w' := fun g B hB => by
  obtain ⟨h1, h2⟩ := h g B hB
  refine ⟨Nat.lt_of_lt_of_le h1 hb.size, fun i v hv => ?_⟩
  obtain ⟨u, e, c⟩ := h2 i v hv
  exact ⟨u, e, (hb.cell (p := ⟨g, i, none⟩) (by show g < n; omega)).trans c⟩
end Go.Proofs.YtjkonfopajihdaaDoor
set_option linter.unusedSimpArgs false
set_option linter.unusedVariables false
namespace Go.Proofs.YtjkonfopajihdaaDoor
open Go Go.RowKit Nt

theorem tabs_of {w : World} (h : Globs glT w) : Bt.Tabs w := by
  have hlk : look 1 glT = some (Lib.deBruijn64tab.map fun (x : Nat) => AV.lit (.int .u8 (x : Nat))) := by
    unfold glT; rw [look_cons, if_pos rfl]
  obtain ⟨h1, h2⟩ := h _ _ hlk
  refine ⟨fun j hj => ?_, h1⟩
  obtain ⟨u, e, c⟩ := h2 j (AV.lit (.int .u8 ((Lib.deBruijn64tab[j]'hj : Nat) : Int))) (by rw [List.getElem?_map, List.getElem?_eq_getElem hj]; rfl)
  injection e with e
  rw [c, ← e]
  simp [List.getD, List.getElem?_eq_getElem hj]
/-- The mantissa and the exponent of a float that is finite. -/
theorem pm_small (x : Nat) : Bt.pm x < 18446744073709551616 := Nat.lt_trans (Bt.pm_lt x) (by decide)
theorem tz_low {m : Nat} (h0 : 0 < m) (hm : m < 18446744073709551616) : lowN m = Bt.tz m ∧ odN m = Bt.od m := by
  obtain ⟨h1, h2, _⟩ := Bt.tz_spec h0 hm
  exact od_unique h2 h1.symm
theorem pex_bounds {x : Nat} (hx : x < 18446744073709551616) (hf : Bt.finB x = true) : -1074 ≤ Bt.pex x ∧ Bt.pex x ≤ 971 := by
  have hr := (Bt.finB_true x).1 hf
  by_cases h : Bt.Ff.rung x < 4503599627370496
  · rw [Bt.pex_sub h]; omega
  · rw [Bt.pex_nor h]; omega
theorem float_ok {x : Nat} (hx : x < 18446744073709551616) (hf : Bt.finB x = true) : mkOk3 (Bt.pm x) (Bt.pex x) := by
  by_cases h0 : Bt.pm x = 0
  · exact Or.inl h0
  · have h1 := (Bt.tz_spec (by omega) (pm_small x)).2.2
    have h2 := (tz_low (by omega) (pm_small x)).1
    have h3 := pex_bounds hx hf
    refine Or.inr ⟨?_, by omega, by omega⟩
    exact fits_le (abs_fits (pm_small x)) (odN_le _)
theorem rung_pm {x : Nat} (h : Bt.Ff.rung x = 0) : Bt.pm x = 0 := by rw [Bt.pm_sub (by omega), h]
/-- What is made of a float. -/
def FlPost (x : Nat) (w : World) (e : Ending) (w' : World) : Prop := e = .returned (.tuple #[(mkD (Bt.Ff.sgn x) (Bt.pm x) (Bt.pex x)).v, .int .i64 0]) ∧ Below w.heap.size w w'
theorem box_tabs {w : World} {b : Obj} (h : Bt.Tabs w) : Bt.Tabs (w.alloc b) := h.below ((Below.refl _ _).alloc (Nat.le_refl _) _)
set_option maxRecDepth 100000 in
theorem DFloat_no (x : Nat) (hx : x < 18446744073709551616) (hf : Bt.finB x = false) (w : World) :
    Calls Tryd.prog 27 #[.float .f64 x] w fun e w' => e = .returned (.tuple #[.agg #[.bool false, .string ⟨#[]⟩, .int .i64 0], .int .i64 5]) ∧ Below w.heap.size w w' := by
  have K := Lib.hid (fun w => Bt.Parts_no x hx hf w)
  go_enter Tryd.func27, Tryd.ntmps27
  go_wp2_with (go_at_call 67; refine (K.out _).mono ?_; rintro e w1 ⟨rfl, rfl⟩)
  refine bodyPost_ret (v := .tuple #[.agg #[.bool false, .string ⟨#[]⟩, .int .i64 0], .int .i64 5]) (by simp [results, Tryd.results27, go_sem]) rfl ⟨rfl, ?_⟩
  repeat (refine Below.setCell ?_ (by simp) _)
  exact (Below.refl _ _).alloc (Nat.le_refl _) _
set_option maxRecDepth 100000 in
theorem DFloat_c (x : Nat) (hx : x < 18446744073709551616) (hf : Bt.finB x = true) (w : World) (hT : Bt.Tabs w) :
    Calls Tryd.prog 27 #[.float .f64 x] w (FlPost x w) := by
  have K : Hid (∀ b, Calls Tryd.prog 67 #[.float .f64 x] (w.alloc b) fun e w' => e = .returned (.tuple #[.bool (Bt.Ff.sgn x), .int .u64 (Bt.partM x), .int .i64 (Bt.partE x), .bool true]) ∧ w.alloc b = w') := Lib.hid (fun b => Bt.Parts_yes x hx hf (w.alloc b) (box_tabs hT))
  by_cases h0 : Bt.Ff.rung x = 0
  · have hz : Bt.partM x = 0 := by unfold Bt.partM; rw [if_pos h0]
    have hd : mkD (Bt.Ff.sgn x) (Bt.pm x) (Bt.pex x) = Dy.zero := by rw [rung_pm h0, mkD_zero]
    rw [hz] at K
    unfold FlPost
    rw [hd, Dy.zero_v]
    clear hd hz h0 hf
    go_enter Tryd.func27, Tryd.ntmps27
    go_wp2_with (go_at_call 67; refine (K.out _).mono ?_; rintro e w1 ⟨rfl, rfl⟩)
    refine bodyPost_ret (v := .tuple #[.agg #[.bool false, .string ⟨#[]⟩, .int .i64 0], .int .i64 0]) (by simp [results, Tryd.results27, go_sem]) rfl ⟨rfl, ?_⟩
    repeat (refine Below.setCell ?_ (by simp) _)
    exact (Below.refl _ _).alloc (Nat.le_refl _) _
  · have hp := Bt.pm_pos h0
    have h2 := tz_low hp (pm_small x)
    have hd : mkD (Bt.Ff.sgn x) (Bt.pm x) (Bt.pex x) = ⟨Bt.Ff.sgn x, Bt.partM x, Bt.partE x⟩ := by
      rw [mkD_ok (by omega) (float_ok hx hf), h2.1, h2.2, Bt.partM_od h0, Bt.partE_eq h0]; rfl
    have hm : Bt.partM x < 18446744073709551616 := by rw [Bt.partM_od h0]; exact Nat.lt_of_le_of_lt Bt.od_le (pm_small x)
    have hz : ((Bt.partM x : Nat) : Int) ≠ 0 := by have := Bt.od_pos hp (pm_small x); rw [Bt.partM_od h0]; omega
    have hz2 : (((Bt.partM x : Nat) : Int) == 0) = false := by rw [beq_eq_false_iff_ne]; exact hz
    have KO := Lib.hid (fun w => Of_n (Bt.partM x) w hm)
    unfold FlPost
    rw [hd]
    clear hd h0 hf h2 hp hm
    generalize Bt.partM x = m at *
    generalize Bt.partE x = q at *
    generalize Bt.Ff.sgn x = g at *
    unfold Dy.v
    go_enter Tryd.func27, Tryd.ntmps27
    go_wp2_with (first
      | (go_at_call 67; refine (K.out _).mono ?_; rintro e w1 ⟨rfl, rfl⟩)
      | (go_at_call 62; refine (KO.out _).mono ?_; rintro e w1 ⟨rfl, hb⟩; obtain ⟨hcl, hfz⟩ := bcell hb; have hsz := box1 hb))
    refine bodyPost_ret (v := .tuple #[.agg #[.bool g, .string (natS m), .int .i64 q], .int .i64 0]) (by simp [results, Tryd.results27, go_sem, hcl, hsz]) rfl ⟨rfl, ?_⟩
    repeat (refine Below.setCell ?_ (by simp) _)
    exact box_below hb
end Go.Proofs.YtjkonfopajihdaaDoor
set_option linter.unusedSimpArgs false
set_option linter.unusedVariables false
namespace Go.Proofs.YtjkonfopajihdaaDoor.Bt
open Go Go.RowKit Ff

/-- The float of odd q times 2 to the power e, by its rung; where it is one. -/
@[irreducible] def mkR (q : Nat) (e : Int) : Nat := if e + Lib.bitLen q > -1022 then q * 2 ^ (53 - Lib.bitLen q) - 4503599627370496 + (e + Lib.bitLen q + 1022).toNat * 4503599627370496 else q * 2 ^ (e + 1074).toNat
def mkOk (q : Nat) (e : Int) : Prop := Lib.bitLen q ≤ 53 ∧ -1074 ≤ e ∧ e + Lib.bitLen q - 1 ≤ 1023
instance (q : Nat) (e : Int) : Decidable (mkOk q e) := by unfold mkOk; exact inferInstance

theorem Make_zero (neg : Bool) (e : Int) (w : World) :
    Calls Tryd.prog 128 #[.bool neg, .int .u64 0, .int .i64 e] w fun r w' => r = .returned (.tuple #[.float .f64 (wf neg 0), .bool true]) ∧ w = w' := by
  go_enter Tryd.func128, Tryd.ntmps128
  go_wp2_with (go_at_call 134; refine (signed_b neg 0 (by decide) _).mono ?_; rintro e w' ⟨rfl, rfl⟩)
  go_ret2
  exact ⟨rfl, rfl⟩
theorem Make_far (neg : Bool) (m : Nat) (h0 : m ≠ 0) (e : Int) (he : 1023 < e ∨ e < -1137) (w : World) :
    Calls Tryd.prog 128 #[.bool neg, .int .u64 m, .int .i64 e] w fun r w' => r = .returned (.tuple #[.float .f64 0, .bool false]) ∧ w = w' := by
  have hz : ((m : Int) == 0) = false := by rw [beq_eq_false_iff_ne]; omega
  rcases he with he | he
  · go_enter Tryd.func128, Tryd.ntmps128
    go_wp2
    go_ret2
    exact ⟨rfl, rfl⟩
  · have he2 : ¬ 1023 < e := by omega
    go_enter Tryd.func128, Tryd.ntmps128
    go_wp2
    go_ret2
    exact ⟨rfl, rfl⟩
theorem shr_tz {m : Nat} (h0 : 0 < m) (hm : m < 18446744073709551616) : (m : Int) / 2 ^ Lib.ctz 64 m = (od m : Int) := by
  unfold od tz; norm_cast

theorem mkOk_bits {q : Nat} {e : Int} (h : mkOk q e) : Lib.bitLen q ≤ 53 ∧ -1074 ≤ e ∧ e + Lib.bitLen q - 1 ≤ 1023 := h
theorem Make_bad (neg : Bool) (m : Nat) (h0 : 0 < m) (hm : m < 18446744073709551616) (e : Int) (he1 : e ≤ 1023) (he2 : -1137 ≤ e) (hk : ¬ mkOk (od m) (e + tz m)) (w : World) (ht : Tabs w) :
    Calls Tryd.prog 128 #[.bool neg, .int .u64 m, .int .i64 e] w fun r w' => r = .returned (.tuple #[.float .f64 0, .bool false]) ∧ w = w' := by
  have hz : ((m : Int) == 0) = false := by rw [beq_eq_false_iff_ne]; omega
  have g1 : ¬ 1023 < e := by omega
  have g2 : ¬ e < -1137 := by omega
  have hs := shr_tz h0 hm
  have hk' : Lib.ctz 64 m < 64 := (tz_spec h0 hm).2.2
  have hq1 : od m < 18446744073709551616 := Nat.lt_of_le_of_lt od_le hm
  have hb := bl_le hq1
  unfold mkOk tz at hk
  by_cases c1 : 53 < (Lib.bitLen (od m) : Int)
  · clear hk
    go_enter Tryd.func128, Tryd.ntmps128
    go_wp2_with (first | (go_at_call 105; refine (Tryd.bits_TrailingZeros64 _ (by omega) _ (fun _ => ht.1)).mono ?_; rintro e w' ⟨rfl, rfl⟩) | (go_at_call 114; refine (Tryd.bits_Len64 _ _ (by omega) (by omega)).mono ?_; rintro e w' ⟨rfl, rfl⟩))
    go_ret2
    exact ⟨rfl, rfl⟩
  · by_cases c2 : e + (Lib.ctz 64 m : Int) < -1074
    · clear hk
      go_enter Tryd.func128, Tryd.ntmps128
      go_wp2_with (first | (go_at_call 105; refine (Tryd.bits_TrailingZeros64 _ (by omega) _ (fun _ => ht.1)).mono ?_; rintro e w' ⟨rfl, rfl⟩) | (go_at_call 114; refine (Tryd.bits_Len64 _ _ (by omega) (by omega)).mono ?_; rintro e w' ⟨rfl, rfl⟩))
      go_ret2
      exact ⟨rfl, rfl⟩
    · have c3 : 1023 < e + (Lib.ctz 64 m : Int) + (Lib.bitLen (od m) : Int) - 1 := by omega
      clear hk
      go_enter Tryd.func128, Tryd.ntmps128
      go_wp2_with (first | (go_at_call 105; refine (Tryd.bits_TrailingZeros64 _ (by omega) _ (fun _ => ht.1)).mono ?_; rintro e w' ⟨rfl, rfl⟩) | (go_at_call 114; refine (Tryd.bits_Len64 _ _ (by omega) (by omega)).mono ?_; rintro e w' ⟨rfl, rfl⟩))
      go_ret2
      exact ⟨rfl, rfl⟩
theorem mul_lt_pow {q B k : Nat} (h : q < 2 ^ B) : q * 2 ^ k < 2 ^ (B + k) := by
  rw [Nat.pow_add]; exact Nat.mul_lt_mul_of_pos_right h (Nat.two_pow_pos k)
theorem mkR_sub {q : Nat} {e : Int} (h : ¬ e + Lib.bitLen q > -1022) : mkR q e = q * 2 ^ (e + 1074).toNat := by unfold mkR; rw [if_neg h]
theorem mkR_nor {q : Nat} {e : Int} (h : e + Lib.bitLen q > -1022) : mkR q e = q * 2 ^ (53 - Lib.bitLen q) - 4503599627370496 + (e + Lib.bitLen q + 1022).toNat * 4503599627370496 := by unfold mkR; rw [if_pos h]
theorem sub_small {q : Nat} {e : Int} (hq : q < 18446744073709551616) (h : mkOk q e) (hs : ¬ e + Lib.bitLen q > -1022) : q * 2 ^ (e + 1074).toNat < 4503599627370496 := by
  obtain ⟨h1, h2, h3⟩ := mkOk_bits h
  refine Nat.lt_of_lt_of_le (mul_lt_pow (bl_lt hq)) ?_
  have p := Nat.pow_le_pow_right (n := 2) (by decide) (show Lib.bitLen q + (e + 1074).toNat ≤ 52 by omega)
  exact p
theorem nor_small {q : Nat} {e : Int} (hq0 : 0 < q) (hq : q < 18446744073709551616) (h : mkOk q e) : 4503599627370496 ≤ q * 2 ^ (53 - Lib.bitLen q) ∧ q * 2 ^ (53 - Lib.bitLen q) < 9007199254740992 := by
  obtain ⟨h1, h2, h3⟩ := mkOk_bits h
  constructor
  · have g := bl_ge hq hq0
    have p : 2 ^ Lib.bitLen q * 2 ^ (53 - Lib.bitLen q) = 9007199254740992 := by rw [← Nat.pow_add, show Lib.bitLen q + (53 - Lib.bitLen q) = 53 by omega]
    have := Nat.mul_le_mul_right (2 ^ (53 - Lib.bitLen q)) g
    rw [p, Nat.mul_assoc] at this
    omega
  · have := mul_lt_pow (k := 53 - Lib.bitLen q) (bl_lt hq)
    rw [show Lib.bitLen q + (53 - Lib.bitLen q) = 53 by omega] at this
    exact this
theorem mkR_lt {q : Nat} {e : Int} (hq0 : 0 < q) (hq : q < 18446744073709551616) (h : mkOk q e) : mkR q e < 9218868437227405312 := by
  obtain ⟨h1, h2, h3⟩ := mkOk_bits h
  by_cases c : e + Lib.bitLen q > -1022
  · rw [mkR_nor c]
    have := (nor_small hq0 hq h).2
    omega
  · rw [mkR_sub c]
    have := sub_small hq h c
    omega
theorem cast_mul_pow (a k : Nat) : (a : Int) * 2 ^ k = ((a * 2 ^ k : Nat) : Int) := by rw [Int.natCast_mul, Int.natCast_pow]; rfl
theorem mk_sub {m : Nat} {e : Int} (hq : od m < 18446744073709551616) (h : mkOk (od m) (e + tz m)) (c : ¬ -1023 < e + (Lib.ctz 64 m : Int) + (Lib.bitLen (od m) : Int) - 1) :
    IntKind.u64.wrap ((od m : Int) * 2 ^ (e + (Lib.ctz 64 m : Int) + 1074).toNat) = (mkR (od m) (e + tz m) : Int) := by
  have c' : ¬ e + (tz m : Int) + Lib.bitLen (od m) > -1022 := by unfold tz; omega
  rw [mkR_sub c', IntKind.wrap_u64]
  have := sub_small hq h c'
  unfold tz at this ⊢
  rw [cast_mul_pow]
  omega
theorem mk_nor {m : Nat} {e : Int} (hq0 : 0 < od m) (hq : od m < 18446744073709551616) (h : mkOk (od m) (e + tz m)) (c : -1023 < e + (Lib.ctz 64 m : Int) + (Lib.bitLen (od m) : Int) - 1) :
    bits BinOp.or IntKind.u64 (bits BinOp.and IntKind.u64 (IntKind.u64.wrap ((od m : Int) * 2 ^ (53 - Lib.bitLen (od m)))) 4503599627370495)
      ((e + (Lib.ctz 64 m : Int) + (Lib.bitLen (od m) : Int) - 1 + 1023) * 4503599627370496) = (mkR (od m) (e + tz m) : Int) := by
  have c' : e + (tz m : Int) + Lib.bitLen (od m) > -1022 := by unfold tz; omega
  obtain ⟨n1, n2⟩ := nor_small hq0 hq h
  obtain ⟨h1, h2, h3⟩ := mkOk_bits h
  rw [mkR_nor c']
  have e1 : IntKind.u64.wrap ((od m : Int) * 2 ^ (53 - Lib.bitLen (od m))) = ((od m * 2 ^ (53 - Lib.bitLen (od m)) : Nat) : Int) := by
    rw [IntKind.wrap_u64, cast_mul_pow]; omega
  rw [e1]
  generalize od m * 2 ^ (53 - Lib.bitLen (od m)) = z at n1 n2
  rw [show (4503599627370495 : Int) = ((4503599627370495 : Nat) : Int) from rfl, u64_and_nat z _ (by omega) (by decide)]
  have e2 : z &&& 4503599627370495 = z - 4503599627370496 := by
    rw [show z &&& 4503599627370495 = z % 4503599627370496 from Nat.and_two_pow_sub_one_eq_mod z 52]; omega
  rw [e2]
  obtain ⟨k, hk⟩ : ∃ k : Nat, e + (Lib.ctz 64 m : Int) + (Lib.bitLen (od m) : Int) - 1 + 1023 = (k : Int) := ⟨(e + (Lib.ctz 64 m : Int) + (Lib.bitLen (od m) : Int) - 1 + 1023).toNat, by omega⟩
  have hk2 : (e + (tz m : Int) + (Lib.bitLen (od m) : Int) + 1022).toNat = k := by unfold tz; omega
  have hk3 : k ≤ 2046 := by unfold tz at h3; omega
  rw [hk2, hk, show (k : Int) * 4503599627370496 = ((k * 4503599627370496 : Nat) : Int) by omega, u64_or_nat _ _ (by omega) (by omega), Nat.or_comm]
  congr 1
  rw [nat_join 52 _ _ (by omega) (by omega), Nat.add_comm]
theorem Make_ok (neg : Bool) (m : Nat) (h0 : 0 < m) (hm : m < 18446744073709551616) (e : Int) (he1 : e ≤ 1023) (he2 : -1137 ≤ e) (hk : mkOk (od m) (e + tz m)) (w : World) (ht : Tabs w) :
    Calls Tryd.prog 128 #[.bool neg, .int .u64 m, .int .i64 e] w fun r w' => r = .returned (.tuple #[.float .f64 (wf neg (mkR (od m) (e + tz m))), .bool true]) ∧ w = w' := by
  have hz : ((m : Int) == 0) = false := by rw [beq_eq_false_iff_ne]; omega
  have g1 : ¬ 1023 < e := by omega
  have g2 : ¬ e < -1137 := by omega
  have hs := shr_tz h0 hm
  have hk' : Lib.ctz 64 m < 64 := (tz_spec h0 hm).2.2
  have hq1 : od m < 18446744073709551616 := Nat.lt_of_le_of_lt od_le hm
  have hb := bl_le hq1
  obtain ⟨k1, k2, k3⟩ := mkOk_bits hk
  unfold tz at k2 k3
  have c1 : ¬ 53 < (Lib.bitLen (od m) : Int) := by omega
  have c2 : ¬ e + (Lib.ctz 64 m : Int) < -1074 := by omega
  have c3 : ¬ 1023 < e + (Lib.ctz 64 m : Int) + (Lib.bitLen (od m) : Int) - 1 := by omega
  have hq0 := od_pos h0 hm
  have hlt := mkR_lt hq0 hq1 hk
  by_cases c4 : -1023 < e + (Lib.ctz 64 m : Int) + (Lib.bitLen (od m) : Int) - 1
  case' pos => have hr := mk_nor hq0 hq1 hk c4
  case' neg => have hr := mk_sub hq1 hk c4
  all_goals
    go_enter Tryd.func128, Tryd.ntmps128
    go_wp2_with (first | (go_at_call 105; refine (Tryd.bits_TrailingZeros64 _ (by omega) _ (fun _ => ht.1)).mono ?_; rintro e w' ⟨rfl, rfl⟩) | (go_at_call 114; refine (Tryd.bits_Len64 _ _ (by omega) (by omega)).mono ?_; rintro e w' ⟨rfl, rfl⟩) | (go_at_call 134; refine (signed_b neg _ (by omega) _).mono ?_; rintro e w' ⟨rfl, rfl⟩))
    go_ret2
    exact ⟨rfl, rfl⟩
end Go.Proofs.YtjkonfopajihdaaDoor.Bt
set_option linter.unusedSimpArgs false
set_option linter.unusedVariables false
namespace Go.Proofs.YtjkonfopajihdaaDoor.Bt
open Go Go.RowKit Ff

@[irreducible] def mkB (m : Nat) (e : Int) : Bool := decide (m = 0 ∨ mkOk (od m) (e + tz m))
@[irreducible] def mkF (neg : Bool) (m : Nat) (e : Int) : Nat := if m = 0 then wf neg 0 else if mkOk (od m) (e + tz m) then wf neg (mkR (od m) (e + tz m)) else 0
theorem mkB_zero (e : Int) : mkB 0 e = true := by unfold mkB; simp
theorem mkF_zero (neg : Bool) (e : Int) : mkF neg 0 e = wf neg 0 := by unfold mkF; simp
theorem mkB_ok {m : Nat} {e : Int} (h : mkOk (od m) (e + tz m)) : mkB m e = true := by unfold mkB; simp [h]
theorem mkF_ok {neg : Bool} {m : Nat} {e : Int} (h0 : 0 < m) (h : mkOk (od m) (e + tz m)) : mkF neg m e = wf neg (mkR (od m) (e + tz m)) := by
  unfold mkF; rw [if_neg (by omega), if_pos h]
theorem mkB_no {m : Nat} {e : Int} (h0 : 0 < m) (h : ¬ mkOk (od m) (e + tz m)) : mkB m e = false := by
  unfold mkB; rw [decide_eq_false_iff_not]; intro c; rcases c with c | c
  · omega
  · exact h c
theorem mkF_no {neg : Bool} {m : Nat} {e : Int} (h0 : 0 < m) (h : ¬ mkOk (od m) (e + tz m)) : mkF neg m e = 0 := by
  unfold mkF; rw [if_neg (by omega), if_neg h]
theorem far_no {m : Nat} {e : Int} (h0 : 0 < m) (hm : m < 18446744073709551616) (he : 1023 < e ∨ e < -1137) : ¬ mkOk (od m) (e + tz m) := by
  have h := tz_spec h0 hm
  have hp := bl_pos (od_pos h0 hm)
  intro c
  obtain ⟨c1, c2, c3⟩ := mkOk_bits c
  omega
theorem Make_c (neg : Bool) (m : Nat) (hm : m < 18446744073709551616) (e : Int) (w : World) (ht : Tabs w) :
    Calls Tryd.prog 128 #[.bool neg, .int .u64 m, .int .i64 e] w fun r w' => r = .returned (.tuple #[.float .f64 (mkF neg m e), .bool (mkB m e)]) ∧ w = w' := by
  by_cases h0 : m = 0
  · subst h0; rw [mkF_zero, mkB_zero]; exact Make_zero neg e w
  · by_cases hf : 1023 < e ∨ e < -1137
    · have hn := far_no (by omega) hm hf
      rw [mkF_no (by omega) hn, mkB_no (by omega) hn]; exact Make_far neg m h0 e hf w
    · by_cases hk : mkOk (od m) (e + tz m)
      · rw [mkF_ok (by omega) hk, mkB_ok hk]; exact Make_ok neg m (by omega) hm e (by omega) (by omega) hk w ht
      · rw [mkF_no (by omega) hk, mkB_no (by omega) hk]; exact Make_bad neg m (by omega) hm e (by omega) (by omega) hk w ht
@[irreducible] def scF (x : Nat) (k : Int) : Nat := if finB x = false then 0 else if rung x = 0 then x else mkF (sgn x) (partM x) (partE x + k)
@[irreducible] def scB (x : Nat) (k : Int) : Bool := if finB x = false then false else if rung x = 0 then true else mkB (partM x) (partE x + k)
theorem partM_odd {x : Nat} (h0 : rung x ≠ 0) : partM x % 2 = 1 := by
  rw [partM_od h0]; exact (tz_spec (pm_pos h0) (by have := pm_lt x; omega)).2.1
theorem partM_lt (x : Nat) : partM x < 9007199254740992 := by
  unfold partM; split
  · omega
  · exact Nat.lt_of_le_of_lt od_le (pm_lt x)
theorem partE_bd (x : Nat) (hf : finB x = true) : -1074 ≤ partE x ∧ partE x ≤ 1100 := by
  unfold partE; split
  · omega
  · rename_i h0
    have h1 := (finB_true x).1 hf
    have h2 := (tz_spec (pm_pos h0) (by have := pm_lt x; omega)).2.2
    by_cases c : rung x < 4503599627370496
    · rw [pex_sub c]; omega
    · rw [pex_nor c]; omega
theorem sc_far {x : Nat} {k : Int} (hf : finB x = true) (h0 : rung x ≠ 0) (hk : k < -4096 ∨ 4096 < k) : scF x k = 0 ∧ scB x k = false := by
  have ho := partM_odd h0
  have hl := partM_lt x
  have hb := partE_bd x hf
  have hn := far_no (m := partM x) (e := partE x + k) (by omega) (by omega) (by omega)
  unfold scF scB
  rw [if_neg (by simp [hf]), if_neg h0, if_neg (by simp [hf]), if_neg h0, mkF_no (by omega) hn, mkB_no (by omega) hn]
  exact ⟨rfl, rfl⟩
theorem sc_near {x : Nat} {k : Int} (hf : finB x = true) (h0 : rung x ≠ 0) : mkF (sgn x) (partM x) (partE x + k) = scF x k ∧ mkB (partM x) (partE x + k) = scB x k := by
  unfold scF scB
  rw [if_neg (by simp [hf]), if_neg h0, if_neg (by simp [hf]), if_neg h0]
  exact ⟨rfl, rfl⟩
theorem sc_zero {x : Nat} {k : Int} (hf : finB x = true) (h0 : rung x = 0) : scF x k = x ∧ scB x k = true := by
  unfold scF scB
  rw [if_neg (by simp [hf]), if_pos h0, if_neg (by simp [hf]), if_pos h0]
  exact ⟨rfl, rfl⟩
theorem sc_inf {x : Nat} {k : Int} (hf : finB x = false) : scF x k = 0 ∧ scB x k = false := by
  unfold scF scB
  rw [if_pos hf, if_pos hf]
  exact ⟨rfl, rfl⟩
theorem ret_fb' {s t : Bool} {a b : Nat} (h : a = b) (h' : s = t) : Ending.returned (.tuple #[.float .f64 a, .bool s]) = .returned (.tuple #[.float .f64 b, .bool t]) := by rw [h, h']

end Go.Proofs.YtjkonfopajihdaaDoor.Bt
set_option linter.unusedSimpArgs false
set_option linter.unusedVariables false
namespace Go.Proofs.YtjkonfopajihdaaDoor
open Go Go.RowKit Nt

theorem boxd {w w1 : World} {b : Obj} (hb : Below ((w.alloc b).drew).heap.size ((w.alloc b).drew) w1) : Below w.heap.size w w1 := (((Below.refl _ _).alloc (Nat.le_refl _) _).drew).trans (hb.mono (show w.heap.size ≤ (w.alloc b).heap.size by simp))
set_option maxRecDepth 100000 in
set_option maxHeartbeats 1000000 in
theorem rTop3_num (g : Bool) (n : Nat) (x : Int) (w : World) (hf : fits n) (ho : n ≠ 0) (h1 : -1048576 ≤ x) (h2 : x ≤ 1048576) :
    Calls Tryd.prog 20 #[.agg #[.bool g, .string (natS n), .int .i64 x]] w fun e w' => e = .returned (.tuple #[.int .i64 ((nd 2 n : Nat) - 1 + x), .bool true]) ∧ Below w.heap.size w w' := by
  have hE := natS_full ho
  have hE2 := natS_full2 ho
  have hb2 := bits_131072' hf
  have hL : nd 256 n ≤ 1000000000 := by unfold fits at hf; omega
  have HO := Lib.hid ho
  have hw1 : IntKind.i64.wrap ((nd 2 n : Int) - 1) = (nd 2 n : Int) - 1 := IntWalk.i64_in _ (by omega)
  have hw2 : IntKind.i64.wrap ((nd 2 n : Int) - 1 + x) = (nd 2 n : Int) - 1 + x := IntWalk.i64_in _ (by omega)
  have hw3 : wrap64 ((nd 2 n : Int) - 1) = (nd 2 n : Int) - 1 := IntWalk.wrap64_in _ (by omega)
  have hw4 : wrap64 ((nd 2 n : Int) - 1 + x) = (nd 2 n : Int) - 1 + x := IntWalk.wrap64_in _ (by omega)
  clear ho
  go_enter Tryd.func20, Tryd.ntmps20
  go_upto_region 3 with fail
  go_region_with (first
    | (go_at_call 61; refine (rOf3_c n _ hL).mono ?_; rintro e w1 ⟨v, rfl, hown, hb⟩; obtain ⟨hc, hfz⟩ := bcell hb; obtain ⟨A, c, rfl, hcl⟩ := hown.len; rw [dl_length] at hown ⊢)
    | (go_at_call 60; refine (rBits3_c n _ _ _ _ hL hown).mono ?_; rintro e w2 ⟨rfl, rfl⟩))
  all_goals
    go_wp2
    go_ret2
    first
      | exact ⟨rfl, boxd hb⟩
      | exact ⟨rfl, (boxd hb).drew⟩
      | exact ⟨rfl, box_below hb⟩
      | exact ⟨rfl, (box_below hb).drew⟩
end Go.Proofs.YtjkonfopajihdaaDoor
set_option linter.unusedSimpArgs false
set_option linter.unusedVariables false
namespace Go.Proofs.YtjkonfopajihdaaDoor
open Go Go.RowKit Nt

/-- The word of m times 2 to the power q, without a sign. -/
@[irreducible] def pk (m : Nat) (q : Int) : Nat := (q + 1074).toNat * 4503599627370496 + m
theorem pk_eq (m : Nat) (q : Int) : pk m q = (q + 1074).toNat * 4503599627370496 + m := by unfold pk; rfl
theorem pk_top (q : Int) (h : -1074 ≤ q) : pk 9007199254740992 q = pk 4503599627370496 (q + 1) := by rw [pk_eq, pk_eq]; omega
theorem pk_lt {m : Nat} {q : Int} (h1 : m ≤ 9007199254740992) (h2 : q ≤ 971) : pk m q ≤ 9218868437227405312 := by rw [pk_eq]; omega
theorem pow_le_of {a b : Nat} (h : 2 ^ a ≤ 2 ^ b) : a ≤ b := (Nat.pow_le_pow_iff_right (by omega)).1 h
theorem pow_lt_of {a b : Nat} (h : 2 ^ a < 2 ^ b) : a < b := (Nat.pow_lt_pow_iff_right (by omega)).1 h
theorem mk_pk {m : Nat} {q : Int} (h0 : 0 < m) (h1 : m ≤ 9007199254740992) (hq : -1074 ≤ q) (hq2 : q ≤ 971) (hm : 4503599627370496 ≤ m ∨ q = -1074) (hn : ¬ (m = 9007199254740992 ∧ q = 971)) :
    Bt.mkOk (Bt.od m) (q + Bt.tz m) ∧ Bt.mkR (Bt.od m) (q + Bt.tz m) = pk m q := by
  have h64 : m < 18446744073709551616 := by omega
  obtain ⟨e1, e2, _⟩ := Bt.tz_spec h0 h64
  have ho := Bt.od_pos h0 h64
  have ho64 : Bt.od m < 18446744073709551616 := Nat.lt_of_le_of_lt Bt.od_le h64
  have b1 := Bt.bl_lt ho64
  have b2 := Bt.bl_ge ho64 ho
  rw [pk_eq]
  revert e1 e2 ho b1 b2
  generalize Bt.tz m = z
  unfold Bt.mkOk
  generalize Bt.od m = o
  have Z := @Bt.mkR_nor o (q + z)
  have Y := @Bt.mkR_sub o (q + z)
  revert Z Y
  generalize Lib.bitLen o = B
  intro Z Y e1 e2 ho b1 b2
  have zp := Nat.two_pow_pos z
  have c1 : m < 2 ^ (B + z) := by rw [← e1, Nat.pow_add]; exact Nat.mul_lt_mul_of_pos_right b1 zp
  have c2 : 2 ^ (B + z) ≤ 2 * m := by rw [← e1, Nat.pow_add, ← Nat.mul_assoc]; exact Nat.mul_le_mul_right _ b2
  have p52 : (2 : Nat) ^ 52 = 4503599627370496 := by decide
  have p53 : (2 : Nat) ^ 53 = 9007199254740992 := by decide
  have p54 : (2 : Nat) ^ 54 = 18014398509481984 := by decide
  by_cases hb : m = 9007199254740992
  · have k1 : B + z < 55 := pow_lt_of (by rw [show (2:Nat)^55 = 36028797018963968 by decide]; omega)
    have k2 : 53 < B + z := pow_lt_of (by omega)
    have kz : z ≠ 0 := by rintro rfl; rw [Nat.pow_zero, Nat.mul_one] at e1; omega
    refine ⟨⟨by omega, by omega, by omega⟩, ?_⟩
    rw [Z (by omega), show 53 - B = z - 1 by omega]
    have e3 : o * 2 ^ (z - 1) * 2 = m := by rw [Nat.mul_assoc, ← Nat.pow_succ, show (z - 1).succ = z by omega, e1]
    omega
  · have k1 : B + z < 54 := pow_lt_of (by omega)
    by_cases hs : 4503599627370496 ≤ m
    · have k2 : 52 < B + z := pow_lt_of (by omega)
      refine ⟨⟨by omega, by omega, by omega⟩, ?_⟩
      rw [Z (by omega), show 53 - B = z by omega, e1]
      omega
    · have k2 : B + z < 53 := pow_lt_of (by omega)
      obtain rfl : q = -1074 := by omega
      refine ⟨⟨by omega, by omega, by omega⟩, ?_⟩
      rw [Y (by omega), show (-1074 + (z : Int) + 1074).toNat = z by omega, e1]
      omega
/-- The place of the greatest bit. -/
def rT (n : Nat) (x : Int) : Int := (nd 2 n : Int) - 1 + x
@[irreducible] def rQ (n : Nat) (x : Int) : Int := if 1024 ≤ rT n x then 971 else max (rT n x - 52) (-1074)
@[irreducible] def rM (n : Nat) (x : Int) : Nat := if 1024 ≤ rT n x then 9007199254740991 else if rQ n x ≤ x then n * 2 ^ (x - rQ n x).toNat else n / 2 ^ (rQ n x - x).toNat
@[irreducible] def rW (n : Nat) (x : Int) : Int := if 1024 ≤ rT n x then 3 else if rQ n x ≤ x then 0 else 2 + cmpN (n % 2 ^ (rQ n x - x).toNat * 2) (2 ^ (rQ n x - x).toNat)
theorem rQ_far {n : Nat} {x : Int} (h : 1024 ≤ rT n x) : rQ n x = 971 ∧ rM n x = 9007199254740991 ∧ rW n x = 3 := by
  unfold rM rW rQ; simp only [if_pos h]; exact ⟨trivial, trivial, trivial⟩
theorem rQ_near {n : Nat} {x : Int} (h : ¬ 1024 ≤ rT n x) : rQ n x = max (rT n x - 52) (-1074) := by unfold rQ; rw [if_neg h]
theorem rM_up {n : Nat} {x : Int} (h : ¬ 1024 ≤ rT n x) (hq : rQ n x ≤ x) : rM n x = n * 2 ^ (x - rQ n x).toNat ∧ rW n x = 0 := by
  unfold rM rW; rw [if_neg h, if_neg h, if_pos hq, if_pos hq]; exact ⟨rfl, rfl⟩
theorem rM_dn {n : Nat} {x : Int} (h : ¬ 1024 ≤ rT n x) (hq : ¬ rQ n x ≤ x) : rM n x = n / 2 ^ (rQ n x - x).toNat ∧ rW n x = 2 + cmpN (n % 2 ^ (rQ n x - x).toNat * 2) (2 ^ (rQ n x - x).toNat) := by
  unfold rM rW; rw [if_neg h, if_neg h, if_neg hq, if_neg hq]; exact ⟨rfl, rfl⟩
theorem rQ_b (n : Nat) (x : Int) : -1074 ≤ rQ n x ∧ rQ n x ≤ 971 := by
  unfold rQ; split <;> omega
theorem rM_b {n : Nat} {x : Int} (h0 : n ≠ 0) : rM n x < 9007199254740992 ∧ (4503599627370496 ≤ rM n x ∨ rQ n x = -1074) := by
  by_cases h : 1024 ≤ rT n x
  · obtain ⟨e1, e2, _⟩ := rQ_far h
    rw [e2]; exact ⟨by omega, Or.inl (by omega)⟩
  · have hq := rQ_near h
    have l1 := lt_nd (b := 2) (n := n) (by omega)
    have hnd : nd 2 n ≠ 0 := fun c => h0 ((nd_eq_zero (by omega)).1 c)
    have l2 : 2 ^ (nd 2 n - 1) ≤ n := (pow_le_iff (b := 2) (by omega) _ _).2 (by omega)
    have ht : rT n x = (nd 2 n : Int) - 1 + x := rfl
    have p52 : (2 : Nat) ^ 52 = 4503599627370496 := by decide
    have p53 : (2 : Nat) ^ 53 = 9007199254740992 := by decide
    by_cases hu : rQ n x ≤ x
    · rw [(rM_up h hu).1]
      revert hq hu
      generalize rQ n x = q
      intro hq hu
      have kp := Nat.two_pow_pos (x - q).toNat
      refine ⟨?_, ?_⟩
      · have a1 : n * 2 ^ (x - q).toNat < 2 ^ (nd 2 n + (x - q).toNat) := by rw [Nat.pow_add]; exact Nat.mul_lt_mul_of_pos_right l1 kp
        have a2 : 2 ^ (nd 2 n + (x - q).toNat) ≤ 2 ^ 53 := Nat.pow_le_pow_right (by omega) (by omega)
        omega
      · by_cases hs : q = -1074
        · exact Or.inr hs
        · left
          have a1 : 2 ^ (nd 2 n - 1 + (x - q).toNat) ≤ n * 2 ^ (x - q).toNat := by rw [Nat.pow_add]; exact Nat.mul_le_mul_right _ l2
          have a2 : 2 ^ 52 ≤ 2 ^ (nd 2 n - 1 + (x - q).toNat) := Nat.pow_le_pow_right (by omega) (by omega)
          omega
    · rw [(rM_dn h hu).1]
      revert hq hu
      generalize rQ n x = q
      intro hq hu
      have kp := Nat.two_pow_pos (q - x).toNat
      refine ⟨?_, ?_⟩
      · rw [Nat.div_lt_iff_lt_mul kp]
        have a2 : 2 ^ nd 2 n ≤ 2 ^ (53 + (q - x).toNat) := Nat.pow_le_pow_right (by omega) (by omega)
        rw [Nat.pow_add] at a2
        generalize 2 ^ (q - x).toNat = K at *
        generalize 2 ^ nd 2 n = J at *
        rw [p53] at a2
        omega
      · by_cases hs : q = -1074
        · exact Or.inr hs
        · left
          rw [Nat.le_div_iff_mul_le kp]
          have a2 : 2 ^ (52 + (q - x).toNat) ≤ 2 ^ (nd 2 n - 1) := Nat.pow_le_pow_right (by omega) (by omega)
          rw [Nat.pow_add] at a2
          generalize 2 ^ (q - x).toNat = K at *
          generalize 2 ^ (nd 2 n - 1) = J at *
          rw [p52] at a2
          omega
/-- The word: with the sign, the float below the magnitude or the one above. -/
@[irreducible] def rnd (g : Bool) (n : Nat) (x : Int) (up : Bool) : Nat := Bt.wf g (pk (if up then rM n x + 1 else rM n x) (rQ n x))
theorem rnd_t (g : Bool) (n : Nat) (x : Int) : rnd g n x true = Bt.wf g (pk (rM n x + 1) (rQ n x)) := by unfold rnd; rw [if_pos rfl]
theorem rnd_f (g : Bool) (n : Nat) (x : Int) : rnd g n x false = Bt.wf g (pk (rM n x) (rQ n x)) := by unfold rnd; rw [if_neg (by decide)]
/-- What is left, by the bits of an odd number. -/
theorem rest_bits {n k : Nat} (ho : n % 2 = 1) (hk : 0 < k) : 2 + cmpN (n % 2 ^ k * 2) (2 ^ k) = if dgt 2 n (k - 1) = 0 then 1 else if k = 1 then 2 else 3 := by
  obtain ⟨j, rfl⟩ : ∃ j, k = j + 1 := ⟨k - 1, by omega⟩
  rw [Nat.add_sub_cancel, dgt_def]
  have kp := Nat.two_pow_pos j
  have e1 : n % 2 ^ (j + 1) = n % 2 ^ j + 2 ^ j * (n / 2 ^ j % 2) := by
    rw [Nat.pow_succ, Nat.mod_mul]
  have e2 : n % 2 ^ j < 2 ^ j := Nat.mod_lt _ kp
  rw [e1, Nat.pow_succ]
  by_cases hb : n / 2 ^ j % 2 = 0
  · rw [if_pos hb, hb, cmpN_lt (by omega)]; rfl
  · have hb1 : n / 2 ^ j % 2 = 1 := by omega
    rw [if_neg hb, hb1, Nat.mul_one]
    by_cases hj : j = 0
    · subst hj
      rw [if_pos rfl, Nat.pow_zero, Nat.mod_one]
      rw [show (0 + 1) * 2 = 1 * 2 by rfl, cmpN_eq]; rfl
    · rw [if_neg (by omega)]
      have e3 : n % 2 ^ j % 2 = 1 := by
        rw [show j = (j - 1) + 1 by omega, Nat.pow_succ, Nat.mul_comm, Nat.mod_mul_right_mod, ho]
      rw [cmpN_gt (by omega)]; rfl
end Go.Proofs.YtjkonfopajihdaaDoor
set_option linter.unusedSimpArgs false
set_option linter.unusedVariables false
namespace Go.Proofs.YtjkonfopajihdaaDoor
open Go Go.RowKit Nt

set_option maxRecDepth 100000 in
theorem rPacked_c (m : Nat) (q : Int) (w : World) (h1 : m ≤ 9007199254740992) (hq : -1074 ≤ q) (hq2 : q ≤ 971) (hm : 4503599627370496 ≤ m ∨ q = -1074) :
    Calls Tryd.prog 111 #[.bool false, .int .u64 m, .int .i64 q] w fun e w' => e = .returned (.float .f64 (pk m q)) ∧ w = w' := by
  have hx := Bt.ext_from
  by_cases c1 : m = 9007199254740992
  · subst c1
    rw [pk_top q hq]
    clear hm
    by_cases c2 : q = 971
    · subst c2
      rw [show pk 4503599627370496 (971 + 1) = 9218868437227405312 by rw [pk_eq]; rfl]
      have hx3 : ∀ w, (callFunc 95 #[.int .u64 9218868437227405312]).run Tryd.prog w = .ok (.value (.float .f64 9218868437227405312)) w := fun w => hx 9218868437227405312 w
      go_enter Tryd.func111, Tryd.ntmps111
      go_wp2
      go_ret
      exact ⟨rfl, rfl⟩
    · have K : (q + 1 + 1075) * 4503599627370496 = (pk 4503599627370496 (q + 1) : Int) := by rw [pk_eq]; omega
      have c3 : ¬ q + 1 + 1075 ≥ 2047 := by omega
      have hx2 := fun w => hx (pk 4503599627370496 (q + 1)) w
      rw [← K] at hx2
      have KK2 := Lib.hid K
      clear K hx
      go_enter Tryd.func111, Tryd.ntmps111
      go_wp2
      go_ret
      exact ⟨rfl, rfl⟩
  · have hz : ((m : Int) == 9007199254740992) = false := by rw [beq_eq_false_iff_ne]; omega
    by_cases c2 : 4503599627370496 ≤ m
    · have K : (q + 1075) * 4503599627370496 + (m : Int) - 4503599627370496 = (pk m q : Int) := by rw [pk_eq]; omega
      have c4 : (4503599627370496 : Int) ≤ (m : Int) := by omega
      have c3 : ¬ q + 1075 ≥ 2047 := by omega
      have hx2 := fun w => hx (pk m q) w
      rw [← K] at hx2
      clear K hx
      go_enter Tryd.func111, Tryd.ntmps111
      go_wp2
      go_ret
      exact ⟨rfl, rfl⟩
    · have K := Lib.hid (show pk m q = m by rw [pk_eq]; omega)
      have c4 : ¬ (4503599627370496 : Int) ≤ (m : Int) := by omega
      go_enter Tryd.func111, Tryd.ntmps111
      go_wp2
      go_ret
      exact ⟨by rw [K.out]; rfl, rfl⟩
set_option maxRecDepth 100000 in
theorem rSigned3_c (g : Bool) (x : Nat) (w : World) (h : x < 9223372036854775808) :
    Calls Tryd.prog 74 #[.bool g, .float .f64 x] w fun e w' => e = .returned (.float .f64 (Bt.wf g x)) ∧ w = w' := by
  have hx := Bt.ext_from
  have hy := Bt.ext_bits
  cases g with
  | false =>
    have K := Lib.hid (show Bt.wf false x = x by unfold Bt.wf; simp)
    go_enter Tryd.func74, Tryd.ntmps74
    go_wp2
    go_ret
    exact ⟨by rw [K.out]; rfl, rfl⟩
  | true =>
    have ho : IntKind.u64.wrap ((x : Int) + 9223372036854775808) = ((Bt.topped x : Nat) : Int) := by
      rw [Bt.topped_eq, IntKind.wrap_u64]; omega
    have K := Lib.hid (show Bt.wf true x = Bt.topped x by rw [Bt.wf_eq, if_pos rfl])
    clear h
    go_enter Tryd.func74, Tryd.ntmps74
    go_wp2
    go_ret
    exact ⟨by rw [K.out]; rfl, rfl⟩
end Go.Proofs.YtjkonfopajihdaaDoor
set_option linter.unusedSimpArgs false
set_option linter.unusedVariables false
namespace Go.Proofs.YtjkonfopajihdaaDoor
open Go Go.RowKit Nt

/-- Any value of the type Dyad. -/
structure Dt where
  g : Bool
  s : ByteArray
  x : Int
def Dt.v (t : Dt) : Value := .agg #[.bool t.g, .string t.s, .int .i64 t.x]
def Dt.Ok (t : Dt) : Prop := DOk t.g t.s t.x
theorem Dt.small {t : Dt} (h : t.Ok) : t.s.size ≤ 16384 := by
  rcases h with ⟨h, _⟩ | ⟨n, hf, _, h, _⟩
  · rw [h]; decide
  · rw [h, natS_size]; exact hf
open Classical in
@[irreducible] noncomputable def dE (l : List Dt) : Int := if ∀ t ∈ l, t.Ok then 0 else 2
theorem dE_ok {l : List Dt} (h : ∀ t ∈ l, t.Ok) : dE l = 0 := by unfold dE; rw [if_pos h]
theorem dE_no {l : List Dt} {t : Dt} (h : t ∈ l) (hn : ¬ t.Ok) : dE l = 2 := by unfold dE; rw [if_neg (fun c => hn (c t h))]
theorem DCheck_c (t : Dt) (w : World) (hs : t.s.size ≤ 9223372036854775807) : Calls Tryd.prog 15 #[.agg #[.bool t.g, .string t.s, .int .i64 t.x]] w fun e w' => e = .returned (.int .i64 (dE [t])) ∧ Below w.heap.size w w' := by
  by_cases h : t.Ok
  · rw [dE_ok (fun u hu => by rw [List.mem_singleton.1 hu]; exact h)]
    rcases h with ⟨e1, e2, e3⟩ | ⟨n, hf, ho, e1, h1, h2⟩
    · rw [e1, e2, e3]; exact DCheck_zero w
    · rw [e1]; exact DCheck_num t.g n t.x w hf ho h1 h2
  · rw [dE_no (List.mem_singleton.2 rfl) h]
    exact DCheck_bad t.g t.s t.x w hs h
/-- A row of Dyads. -/
def Dts (w : World) (A : Option Addr) (l : List Dt) : Prop := 0 < l.length → ∃ ad, A = some ad ∧ ad.block < w.heap.size ∧ ∀ j (h : j < l.length), w.cell? (ad.add (j * 3)) = some (.bool l[j].g) ∧ w.cell? ⟨(ad.add (j * 3)).block, (ad.add (j * 3)).off + 1, none⟩ = some (.string l[j].s) ∧ w.cell? ⟨(ad.add (j * 3)).block, (ad.add (j * 3)).off + 2, none⟩ = some (.int .i64 l[j].x)
theorem Dts.below {w w' : World} {A : Option Addr} {l : List Dt} (h : Dts w A l) (hb : Below w.heap.size w w') : Dts w' A l := fun h0 => by
  obtain ⟨ad, e, hl, hc⟩ := h h0
  refine ⟨ad, e, Nat.lt_of_lt_of_le hl hb.size, fun j hj => ?_⟩
  obtain ⟨c1, c2, c3⟩ := hc j hj
  exact ⟨(hb.cell (p := ad.add (j * 3)) (by rw [block_of_add']; exact hl)).trans c1, (hb.cell (p := ⟨(ad.add (j * 3)).block, (ad.add (j * 3)).off + 1, none⟩) (by show (ad.add (j * 3)).block < _; rw [block_of_add']; exact hl)).trans c2, (hb.cell (p := ⟨(ad.add (j * 3)).block, (ad.add (j * 3)).off + 2, none⟩) (by show (ad.add (j * 3)).block < _; rw [block_of_add']; exact hl)).trans c3⟩
set_option maxRecDepth 100000 in
set_option maxHeartbeats 1000000 in
theorem Dall_c (A : Option Addr) (c : Nat) (l : List Dt) (w : World) (hl : l.length ≤ 9223372036854775807) (hs : ∀ t ∈ l, t.s.size ≤ 9223372036854775807) (h : Dts w A l) :
    Calls Tryd.prog 75 #[.slice A l.length c] w fun e w' => e = .returned (.int .i64 (dE l)) ∧ Below w.heap.size w w' := by
  have HD := Lib.hid h
  have HS := Lib.hid hs
  clear h hs
  go_enter Tryd.func75, Tryd.ntmps75
  go_wp2
  go_loopw [8] (fun i wr => ∃ k : Nat, k ≤ l.length ∧ i = .int .i64 k ∧ Hid (∀ j (h : j < l.length), j < k → l[j].Ok) ∧ Below w.heap.size w wr) (fun i _ => l.length - (intOf i).toNat)
  case atStart => exact ⟨0, Nat.zero_le _, rfl, Lib.hid (fun j _ h => by omega), Below.refl _ _⟩
  case round =>
    obtain ⟨k, hk, rfl, hok, hb⟩ := hrel
    by_cases hlt : k < l.length
    · obtain ⟨ad, rfl, hadb, hc⟩ := (HD.out.below hb) (by omega)
      obtain ⟨c1, c2, c3⟩ := hc k hlt
      have K := Lib.hid (fun w => DCheck_c l[k] w (HS.out _ (List.getElem_mem hlt)))
      by_cases hok1 : l[k].Ok
      · have e0 := dE_ok (l := [l[k]]) (fun u hu => by rw [List.mem_singleton.1 hu]; exact hok1)
        rw [e0] at K
        have HOK := Lib.hid (show ∀ j (h : j < l.length), j < k + 1 → l[j].Ok from fun j hj h2 => by
          rcases Nat.lt_or_ge j k with h3 | h3
          · exact hok.out j hj h3
          · obtain rfl : j = k := by omega
            exact hok1)
        clear e0 hok1 hc
        go_wp2_with fail
        refine (K.out _).mono ?_
        rintro e w2 ⟨rfl, hb2⟩
        have hb3 := below_chain hb (box_below hb2)
        clear hb2
        go_wp2_with fail
        go_roundw
        case rel => exact ⟨k + 1, by omega, by go_num, HOK, hb3⟩
        case measure => simp [intOf]; omega
      · have e0 := dE_no (l := [l[k]]) (List.mem_singleton.2 rfl) hok1
        have e1 := dE_no (l := l) (List.getElem_mem hlt) hok1
        rw [e0] at K
        have HE := Lib.hid e1
        clear e0 e1 hok1 hc
        go_wp2_with fail
        refine (K.out _).mono ?_
        rintro e w2 ⟨rfl, hb2⟩
        have hb3 := below_chain hb (box_below hb2)
        clear hb2
        go_wp2_with fail
        go_ret
        exact ⟨by rw [HE.out]; rfl, hb3⟩
    · have e1 := dE_ok (l := l) (fun t ht => by
        obtain ⟨j, hj, rfl⟩ := List.getElem_of_mem ht
        exact hok.out j hj (by omega))
      have HE := Lib.hid e1
      clear e1
      go_wp2_with fail
      go_ret
      exact ⟨by rw [HE.out]; rfl, hb⟩
end Go.Proofs.YtjkonfopajihdaaDoor
set_option linter.unusedSimpArgs false
set_option linter.unusedVariables false
namespace Go.Proofs.YtjkonfopajihdaaDoor
open Go Go.RowKit Nt

theorem ff_exp (x : Nat) (hx : x < 18446744073709551616) : bits BinOp.and IntKind.u64 ((x : Int) / 4503599627370496) 2047 = ((Bt.Ff.rung x / 4503599627370496 : Nat) : Int) := by
  have h := u64_and_nat (x / 4503599627370496) 2047 (by omega) (by decide)
  rw [show ((2047 : Nat) : Int) = 2047 from rfl, Int.natCast_ediv] at h
  rw [show ((4503599627370496 : Nat) : Int) = 4503599627370496 from rfl] at h
  rw [h]
  congr 1
  have h2 := Nat.and_two_pow_sub_one_eq_mod (x / 4503599627370496) 11
  rw [show (2 : Nat) ^ 11 - 1 = 2047 from rfl, show (2 : Nat) ^ 11 = 2048 from rfl] at h2
  rw [h2]
  unfold Bt.Ff.rung
  omega
theorem ff_man (x : Nat) (hx : x < 18446744073709551616) : bits BinOp.and IntKind.u64 (x : Int) 4503599627370495 = (Bt.frac x : Int) := by
  rw [show (4503599627370495 : Int) = ((4503599627370495 : Nat) : Int) from rfl, u64_and_nat x _ hx (by decide), Bt.frac_eq]
  congr 1
  have h2 := Nat.and_two_pow_sub_one_eq_mod x 52
  rw [show (2 : Nat) ^ 52 - 1 = 4503599627370495 from rfl, show (2 : Nat) ^ 52 = 4503599627370496 from rfl] at h2
  rw [h2]
  unfold Bt.Ff.rung
  omega
theorem ff_sgn (x : Nat) (hx : x < 18446744073709551616) : ((x : Int) / 9223372036854775808 == 1) = Bt.Ff.sgn x := by
  unfold Bt.Ff.sgn
  rw [Bool.eq_iff_iff, beq_iff_eq, beq_iff_eq]; omega
set_option maxRecDepth 100000 in
theorem rFrom3_no (x : Nat) (hx : x < 18446744073709551616) (hf : Bt.finB x = false) (w : World) :
    Calls Tryd.prog 28 #[.float .f64 x] w fun e w' => e = .returned (.tuple #[.agg #[.bool false, .string ⟨#[]⟩, .int .i64 0], .int .i64 5]) ∧ Below w.heap.size w w' := by
  have h44 := Bt.ext_bits
  have hr := (Bt.finB_false x).1 hf
  have h1 := ff_exp x hx
  have hE : Bt.Ff.rung x / 4503599627370496 = 2047 := by have : Bt.Ff.rung x < 9223372036854775808 := by unfold Bt.Ff.rung; omega
                                                         omega
  rw [hE] at h1
  have h2 := ff_man x hx
  have h1' : bits BinOp.and IntKind.u64 ((x : Int) / 4503599627370496) 2047 = 2047 := h1
  generalize Bt.frac x = m at *
  clear h1 hE hr hf
  go_enter Tryd.func28, Tryd.ntmps28
  go_wp2
  refine bodyPost_ret (v := .tuple #[.agg #[.bool false, .string ⟨#[]⟩, .int .i64 0], .int .i64 5]) (by simp [results, Tryd.results28, go_sem]) rfl ⟨rfl, ?_⟩
  repeat (refine Below.setCell ?_ (by simp) _)
  exact (Below.refl _ _).alloc (Nat.le_refl _) _
set_option maxRecDepth 100000 in
set_option maxHeartbeats 1000000 in
theorem rFrom3_c (x : Nat) (hx : x < 18446744073709551616) (hf : Bt.finB x = true) (w : World) :
    Calls Tryd.prog 28 #[.float .f64 x] w (FlPost x w) := by
  have h44 := Bt.ext_bits
  have hr := (Bt.finB_true x).1 hf
  have h1 := ff_exp x hx
  have h2 := ff_man x hx
  have h3 := ff_sgn x hx
  have hok := mkE_ok (float_ok hx hf)
  have hpb := pex_bounds hx hf
  have hpm := pm_small x
  have KO := Lib.hid (fun w => rOf_c (Bt.pm x) w hpm)
  have KM : Hid (∀ (g : Bool) (w : World), Calls Tryd.prog 26 #[.bool g, .string (natS (Bt.pm x)), .int .i64 (Bt.pex x)] w fun e w' => e = .returned (.tuple #[(mkD g (Bt.pm x) (Bt.pex x)).v, .int .i64 0]) ∧ Below w.heap.size w w') := Lib.hid fun g w => (rMake3_c g (Bt.pm x) (Bt.pex x) w (abs_fits hpm) (by omega)).mono fun e w' h => ⟨by rw [h.1, hok], h.2⟩
  by_cases hn : Bt.Ff.rung x < 4503599627370496
  · have hE : Bt.Ff.rung x / 4503599627370496 = 0 := by omega
    rw [hE] at h1
    have h1' : bits BinOp.and IntKind.u64 ((x : Int) / 4503599627370496) 2047 = 0 := h1
    have h2' : bits BinOp.and IntKind.u64 (x : Int) 4503599627370495 = (Bt.pm x : Int) := by rw [h2, Bt.frac_sub hn]
    have hp := Bt.pex_sub hn
    rw [hp] at KM
    unfold FlPost
    rw [hp]
    clear h1 h2 hE hr hf hn hp hpb hok hpm
    generalize Bt.pm x = m at *
    generalize Bt.Ff.sgn x = g at *
    unfold Dy.v
    go_enter Tryd.func28, Tryd.ntmps28
    go_wp2_with (first
      | (go_at_call 63; refine (KO.out _).mono ?_; rintro e w1 ⟨rfl, hb⟩)
      | (go_at_call 26; refine (KM.out _ _).mono ?_; rintro e w2 ⟨rfl, hb2⟩; have hb12 := hb.trans (hb2.mono hb.size); obtain ⟨hcl, hfz⟩ := bcell hb12; have hsz := box1 hb12; unfold Dy.v))
    refine bodyPost_ret (v := .tuple #[(mkD g m (-1074)).v, .int .i64 0]) (by simp [results, Tryd.results28, go_sem, hcl, hsz, Dy.v]) rfl ⟨rfl, ?_⟩
    repeat (refine Below.setCell ?_ (by simp) _)
    exact box_below hb12
  · obtain ⟨E, hE⟩ : ∃ E, E = Bt.Ff.rung x / 4503599627370496 := ⟨_, rfl⟩
    have hp := Bt.pex_nor hn
    rw [← hE] at hp h1
    have hE1 : 1 ≤ E ∧ E ≤ 2046 := by omega
    have hp2 : (E : Int) - 1075 = Bt.pex x := by rw [hp]; omega
    have h5 : (Bt.frac x : Int) + 4503599627370496 = (Bt.pm x : Int) := by rw [Bt.pm_nor hn]; omega
    have e1 : ((E : Int) == 2047) = false := by rw [beq_eq_false_iff_ne]; omega
    have e2 : ((E : Int) == 0) = false := by rw [beq_eq_false_iff_ne]; omega
    have e3 : ¬ (E : Int) = 2047 := by omega
    have e4 : ¬ (E : Int) = 0 := by omega
    have h6 : IntKind.u64.wrap (Bt.pm x : Int) = (Bt.pm x : Int) := by rw [IntKind.wrap_u64]; omega
    unfold FlPost
    clear hE hr hf hn hp hok
    generalize Bt.frac x = f at *
    generalize Bt.pm x = m at *
    generalize Bt.Ff.sgn x = g at *
    generalize Bt.pex x = q at *
    have hw1 : wrap64 q = q := IntWalk.wrap64_in _ (by omega)
    have hw2 : IntKind.i64.wrap (E : Int) = (E : Int) := IntWalk.i64_in _ (by omega)
    clear hpb hpm
    unfold Dy.v
    go_enter Tryd.func28, Tryd.ntmps28
    go_wp2_with (first
      | (go_at_call 63; refine (KO.out _).mono ?_; rintro e w1 ⟨rfl, hb⟩)
      | (go_at_call 26; refine (KM.out _ _).mono ?_; rintro e w2 ⟨rfl, hb2⟩; have hb12 := hb.trans (hb2.mono hb.size); obtain ⟨hcl, hfz⟩ := bcell hb12; have hsz := box1 hb12; unfold Dy.v))
    refine bodyPost_ret (v := .tuple #[(mkD g m q).v, .int .i64 0]) (by simp [results, Tryd.results28, go_sem, hcl, hsz, Dy.v]) rfl ⟨rfl, ?_⟩
    repeat (refine Below.setCell ?_ (by simp) _)
    exact box_below hb12
end Go.Proofs.YtjkonfopajihdaaDoor
set_option linter.unusedSimpArgs false
set_option linter.unusedVariables false
namespace Go.Proofs.YtjkonfopajihdaaDoor
open Go Go.RowKit Nt

/-- A Dyad stands at block B. -/
def BoxAt (w : World) (B : Nat) (g : Bool) (s : ByteArray) (x : Int) : Prop := B < w.heap.size ∧ w.cell? ⟨B, 0, none⟩ = some (.bool g) ∧ w.cell? ⟨B, 1, none⟩ = some (.string s) ∧ w.cell? ⟨B, 2, none⟩ = some (.int .i64 x)
theorem BoxAt.step {w w' : World} {B : Nat} {g : Bool} {s : ByteArray} {x : Int} (h : BoxAt w B g s x) (hb : Below w.heap.size w w') : BoxAt w' B g s x := by
  obtain ⟨h0, h1, h2, h3⟩ := h
  exact ⟨Nat.lt_of_lt_of_le h0 hb.size, (hb.cell (p := ⟨B, 0, none⟩) h0).trans h1, (hb.cell (p := ⟨B, 1, none⟩) h0).trans h2, (hb.cell (p := ⟨B, 2, none⟩) h0).trans h3⟩
theorem BoxAt.new (w : World) (g : Bool) (s : ByteArray) (x : Int) (T : TypeId) : BoxAt (w.alloc (.cells #[.bool g, .string s, .int .i64 x] T)) w.heap.size g s x :=
  ⟨by simp, (World.cell?_alloc_at _ _ _ _ rfl).trans rfl, (World.cell?_alloc_at _ _ _ _ rfl).trans rfl, (World.cell?_alloc_at _ _ _ _ rfl).trans rfl⟩
/-- From w on, with one Dyad in its box. -/
def On1 (w : World) (g : Bool) (s : ByteArray) (x : Int) (wc : World) : Prop := Below w.heap.size w wc ∧ BoxAt wc w.heap.size g s x
theorem On1.step {w : World} {g : Bool} {s : ByteArray} {x : Int} {wc w' : World} (h : On1 w g s x wc) (hb : Below wc.heap.size wc w') : On1 w g s x w' := ⟨below_chain h.1 hb, h.2.step hb⟩
theorem On1.new (w : World) (g : Bool) (s : ByteArray) (x : Int) (T : TypeId) : On1 w g s x (w.alloc (.cells #[.bool g, .string s, .int .i64 x] T)) := ⟨(Below.refl _ _).alloc (Nat.le_refl _) _, BoxAt.new w g s x T⟩
set_option maxRecDepth 100000 in
set_option maxHeartbeats 1000000 in
theorem DyadChecks_bad (g : Bool) (s : ByteArray) (x : Int) (w : World) (hs : s.size ≤ 9223372036854775807) (h : ¬ DOk g s x) (hG : Globs glT w) :
    Calls Tryd.prog 3 #[.agg #[.bool g, .string s, .int .i64 x]] w fun e w' => e = .returned (.bool true) ∧ Below w.heap.size w w' := by
  have H := Lib.hid h
  have G := Lib.hid hG
  clear hG
  have HO := On1.new w g s x 24
  clear h
  go_enter Tryd.func3, Tryd.ntmps3
  go_wp2_with (first
    | (go_at_call 13; refine (DTop_bad _ _ _ _ hs H.out).mono ?_; rintro e w1 ⟨rfl, hb⟩; replace HO := HO.step hb; obtain ⟨hz, c0, c1, c2⟩ := HO.2; clear hb)
    | (go_at_call 14; refine (rMay3_bad _ _ _ _ hs H.out).mono ?_; rintro e w1 ⟨rfl, hb⟩; replace HO := HO.step hb; obtain ⟨hz, c0, c1, c2⟩ := HO.2; clear hb)
    | (go_at_call 15; refine (DCheck_bad _ _ _ _ hs H.out).mono ?_; rintro e w1 ⟨rfl, hb⟩; replace HO := HO.step hb; obtain ⟨hz, c0, c1, c2⟩ := HO.2; clear hb)
    | (go_at_call 16; refine (DSign_bad _ _ _ _ hs H.out).mono ?_; rintro e w1 ⟨rfl, hb⟩; replace HO := HO.step hb; obtain ⟨hz, c0, c1, c2⟩ := HO.2; clear hb)
    | (go_at_call 17; refine (DNeg_bad _ _ _ _ hs H.out).mono ?_; rintro e w1 ⟨rfl, hb⟩; replace HO := HO.step hb; obtain ⟨hz, c0, c1, c2⟩ := HO.2; clear hb)
    | (go_at_call 18; refine (DAbs_bad _ _ _ _ hs H.out).mono ?_; rintro e w1 ⟨rfl, hb⟩; replace HO := HO.step hb; obtain ⟨hz, c0, c1, c2⟩ := HO.2; clear hb)
    | (go_at_call 19; refine (awake3_c _ (G.out.below HO.1 (Nat.le_refl _))).mono ?_; rintro e w1 ⟨rfl, hb⟩; replace HO := HO.step hb; clear hb))
  go_ret
  exact ⟨rfl, HO.1⟩
/-- And a second box, with the Dyad's magnitude. -/
def On2 (w : World) (g : Bool) (s : ByteArray) (x : Int) (B : Nat) (wc : World) : Prop := On1 w g s x wc ∧ BoxAt wc B false s x
theorem On2.step {w : World} {g : Bool} {s : ByteArray} {x : Int} {B : Nat} {wc w' : World} (h : On2 w g s x B wc) (hb : Below wc.heap.size wc w') : On2 w g s x B w' := ⟨h.1.step hb, h.2.step hb⟩
theorem On2.start {w : World} {g : Bool} {s : ByteArray} {x : Int} {w1 : World} {T : TypeId} (h : On1 w g s x w1) : On2 w g s x w1.heap.size ((w1.alloc (.cells #[.bool false, .string s, .int .i64 x] T)).drew) := by
  have e : Below w1.heap.size w1 (w1.alloc (.cells #[.bool false, .string s, .int .i64 x] T)) := (Below.refl _ _).alloc (Nat.le_refl _) _
  exact ⟨h.step e.drew, (BoxAt.new w1 false s x T).step (Below.refl _ _).drew⟩
set_option maxRecDepth 100000 in
set_option maxHeartbeats 2000000 in
theorem DyadChecks_num (g : Bool) (n : Nat) (x : Int) (w : World) (hf : fits n) (ho : n % 2 = 1) (h1 : -1048576 ≤ x) (h2 : x ≤ 1048576) (hG : Globs glT w) :
    Calls Tryd.prog 3 #[.agg #[.bool g, .string (natS n), .int .i64 x]] w fun e w' => e = .returned (.bool true) ∧ Below w.heap.size w w' := by
  have HN := Lib.hid ho
  have HZ := Lib.hid (odd_ne ho)
  have hb2 := bits_131072' hf
  have hw2 : IntKind.i64.wrap ((nd 2 n : Int) - 1 + x) = (nd 2 n : Int) - 1 + x := IntWalk.i64_in _ (by omega)
  have HO := On1.new w g (natS n) x 24
  clear ho
  go_enter Tryd.func3, Tryd.ntmps3
  go_upto_region 7 with (first
    | (go_at_call 13; refine (DTop_num _ _ _ _ hf HN.out h1 h2).mono ?_; rintro e w1 ⟨rfl, hb⟩; replace HO := HO.step hb; obtain ⟨hz, c0, c1, c2⟩ := HO.2; clear hb)
    | (go_at_call 14; refine (rMay3_num _ _ _ _ hf HN.out h1 h2).mono ?_; rintro e w1 ⟨rfl, hb⟩; replace HO := HO.step hb; obtain ⟨hz, c0, c1, c2⟩ := HO.2; clear hb)
    | (go_at_call 20; refine (rTop3_num _ _ _ _ hf HZ.out h1 h2).mono ?_; rintro e w1 ⟨rfl, hb⟩; replace HO := HO.step hb; obtain ⟨hz, c0, c1, c2⟩ := HO.2; clear hb))
  have T0 : On2 w g (natS n) x w1.heap.size ((w1.alloc (.cells #[.bool false, .string (natS n), .int .i64 x] 24)).drew) := On2.start HO
  have L0 := fun w' (h : On2 w g (natS n) x w1.heap.size w') => h.1.2.2.1
  have L1 := fun w' (h : On2 w g (natS n) x w1.heap.size w') => h.1.2.2.2.1
  have L2 := fun w' (h : On2 w g (natS n) x w1.heap.size w') => h.1.2.2.2.2
  have L3 := fun w' (h : On2 w g (natS n) x w1.heap.size w') => h.2.2.1
  have L4 := fun w' (h : On2 w g (natS n) x w1.heap.size w') => h.2.2.2.1
  have L5 := fun w' (h : On2 w g (natS n) x w1.heap.size w') => h.2.2.2.2
  have HG := Lib.hid (fun w' (h : On2 w g (natS n) x w1.heap.size w') => hG.below h.1.1 (Nat.le_refl _))
  clear hG
  go_region_held3 (On2 w g (natS n) x w1.heap.size) (first | assumption | exact On2.step (by assumption) (by assumption) | exact On2.step (by assumption) (Below.refl _ _).drew | exact On2.step (by assumption) (below_drewN (Below.refl _ _) _))
    (first
      | (go_at_call 15; refine (DCheck_num _ _ _ _ hf HN.out h1 h2).mono ?_; rintro e w' ⟨rfl, hb7⟩)
      | (go_at_call 16; refine (DSign_num _ _ _ _ hf HN.out h1 h2).mono ?_; rintro e w' ⟨rfl, hb7⟩)
      | (go_at_call 21; refine (rSign3_num _ _ _ _ HZ.out).mono ?_; rintro e w' ⟨rfl, hb7⟩)
      | (go_at_call 17; refine (DNeg_num _ _ _ _ hf HN.out h1 h2).mono ?_; rintro e w' ⟨rfl, hb7⟩)
      | (go_at_call 22; refine (rNeg3_num _ _ _ _ HZ.out).mono ?_; rintro e w' ⟨rfl, hb7⟩)
      | (go_at_call 18; refine (DAbs_num _ _ _ _ hf HN.out h1 h2).mono ?_; rintro e w' ⟨rfl, hb7⟩)
      | (go_at_call 19; refine (awake3_c _ (HG.out _ (by assumption))).mono ?_; rintro e w' ⟨rfl, hb7⟩))
  rename_i hHeld
  have hfin := hHeld.1.1
  clear hHeld
  go_wp2
  go_ret
  exact ⟨rfl, hfin⟩
set_option maxRecDepth 100000 in
set_option maxHeartbeats 2000000 in
theorem DyadChecks_zero (w : World) (hG : Globs glT w) :
    Calls Tryd.prog 3 #[.agg #[.bool false, .string ⟨#[]⟩, .int .i64 0]] w fun e w' => e = .returned (.bool true) ∧ Below w.heap.size w w' := by
  have HO := On1.new w false ⟨#[]⟩ 0 24
  go_enter Tryd.func3, Tryd.ntmps3
  go_upto_region 7 with (first
    | (go_at_call 13; refine (DTop_zero _).mono ?_; rintro e w1 ⟨rfl, hb⟩; replace HO := HO.step hb; obtain ⟨hz, c0, c1, c2⟩ := HO.2; clear hb)
    | (go_at_call 14; refine (rMay3_zero _).mono ?_; rintro e w1 ⟨rfl, hb⟩; replace HO := HO.step hb; obtain ⟨hz, c0, c1, c2⟩ := HO.2; clear hb)
    | (go_at_call 20; refine (rTop3_zero _).mono ?_; rintro e w1 ⟨rfl, hb⟩; replace HO := HO.step hb; obtain ⟨hz, c0, c1, c2⟩ := HO.2; clear hb))
  have T0 : On2 w false ⟨#[]⟩ 0 w1.heap.size ((w1.alloc (.cells #[.bool false, .string ⟨#[]⟩, .int .i64 0] 24)).drew) := On2.start HO
  have L0 := fun w' (h : On2 w false ⟨#[]⟩ 0 w1.heap.size w') => h.1.2.2.1
  have L1 := fun w' (h : On2 w false ⟨#[]⟩ 0 w1.heap.size w') => h.1.2.2.2.1
  have L2 := fun w' (h : On2 w false ⟨#[]⟩ 0 w1.heap.size w') => h.1.2.2.2.2
  have L3 := fun w' (h : On2 w false ⟨#[]⟩ 0 w1.heap.size w') => h.2.2.1
  have L4 := fun w' (h : On2 w false ⟨#[]⟩ 0 w1.heap.size w') => h.2.2.2.1
  have L5 := fun w' (h : On2 w false ⟨#[]⟩ 0 w1.heap.size w') => h.2.2.2.2
  have HG := Lib.hid (fun w' (h : On2 w false ⟨#[]⟩ 0 w1.heap.size w') => hG.below h.1.1 (Nat.le_refl _))
  clear hG
  go_region_held3 (On2 w false ⟨#[]⟩ 0 w1.heap.size) (first | assumption | exact On2.step (by assumption) (by assumption) | exact On2.step (by assumption) (Below.refl _ _).drew | exact On2.step (by assumption) (below_drewN (Below.refl _ _) _))
    (first
      | (go_at_call 15; refine (DCheck_zero _).mono ?_; rintro e w' ⟨rfl, hb7⟩)
      | (go_at_call 16; refine (DSign_zero _).mono ?_; rintro e w' ⟨rfl, hb7⟩)
      | (go_at_call 21; refine (rSign3_zero _).mono ?_; rintro e w' ⟨rfl, hb7⟩)
      | (go_at_call 17; refine (DNeg_zero _).mono ?_; rintro e w' ⟨rfl, hb7⟩)
      | (go_at_call 22; refine (rNeg3_zero _).mono ?_; rintro e w' ⟨rfl, hb7⟩)
      | (go_at_call 18; refine (DAbs_zero _).mono ?_; rintro e w' ⟨rfl, hb7⟩)
      | (go_at_call 19; refine (awake3_c _ (HG.out _ (by assumption))).mono ?_; rintro e w' ⟨rfl, hb7⟩))
  rename_i hHeld
  have hfin := hHeld.1.1
  clear hHeld
  go_wp2
  go_ret
  exact ⟨rfl, hfin⟩
theorem DyadChecks_law (g : Bool) (s : ByteArray) (x : Int) (w : World) (hs : s.size ≤ 9223372036854775807) (hG : Globs glT w) :
    Calls Tryd.prog 3 #[.agg #[.bool g, .string s, .int .i64 x]] w fun e w' => e = .returned (.bool true) ∧ Below w.heap.size w w' := by
  by_cases h : DOk g s x
  · rcases h with ⟨rfl, rfl, rfl⟩ | ⟨n, hf, ho, rfl, h1, h2⟩
    · exact DyadChecks_zero w hG
    · exact DyadChecks_num g n x w hf ho h1 h2 hG
  · exact DyadChecks_bad g s x w hs h hG
end Go.Proofs.YtjkonfopajihdaaDoor
set_option linter.unusedSimpArgs false
set_option linter.unusedVariables false
namespace Go.Proofs.YtjkonfopajihdaaDoor
open Go Go.RowKit Nt

/-- What both make: the same Dyad, the same error. -/
def Two (f g : FuncId) (args : Array Value) : Prop := ∃ (d : Dy) (e : Int), (∀ w, Globs glT w → Calls Tryd.prog f args w fun r w' => r = .returned (.tuple #[d.v, .int .i64 e]) ∧ Below w.heap.size w w') ∧ (∀ w, Calls Tryd.prog g args w fun r w' => r = .returned (.tuple #[d.v, .int .i64 e]) ∧ Below w.heap.size w w')
theorem two_of_ (z x : Int) (hz : -9223372036854775808 ≤ z ∧ z ≤ 9223372036854775807) (hx : -9223372036854775808 ≤ x ∧ x ≤ 9223372036854775807) : Two 23 24 #[.int .i64 z, .int .i64 x] :=
  ⟨mkD (decide (z < 0)) z.natAbs x, mkE z.natAbs x, fun w _ => DOf_c z x w hz hx, fun w => rOfD3_c z x w hz hx⟩
theorem two_make (g : Bool) (s : ByteArray) (x : Int) (hs : s.size ≤ 9223372036854775807) (hx : -9223372036854775808 ≤ x ∧ x ≤ 9223372036854775807) : Two 25 26 #[.bool g, .string s, .int .i64 x] := by
  by_cases h : May s
  · obtain ⟨n, hf, rfl⟩ := may_num h
    exact ⟨mkD g n x, mkE n x, fun w _ => DMake_c g n x w hf hx, fun w => rMake3_c g n x w hf hx⟩
  · refine ⟨Dy.zero, 2, fun w _ => ?_, fun w => ?_⟩
    · rw [Dy.zero_v]; exact DMake_bad g s x w h
    · rw [Dy.zero_v]; exact rMake3_bad g s x w hs h
theorem two_float (x : Nat) (hx : x < 18446744073709551616) : Two 27 28 #[.float .f64 x] := by
  by_cases h : Bt.finB x = true
  · exact ⟨mkD (Bt.Ff.sgn x) (Bt.pm x) (Bt.pex x), 0, fun w hG => DFloat_c x hx h w (tabs_of hG), fun w => rFrom3_c x hx h w⟩
  · have h' : Bt.finB x = false := by simpa using h
    refine ⟨Dy.zero, 5, fun w _ => ?_, fun w => ?_⟩
    · rw [Dy.zero_v]; exact DFloat_no x hx h' w
    · rw [Dy.zero_v]; exact rFrom3_no x hx h' w
/-- A Dyad in a block. -/
def Box3 (w : World) (B : Nat) (a b c : Value) : Prop := Blk w B 24 #[a, b, c]
theorem Box3.facts {w : World} {B : Nat} {a b c : Value} (h : Box3 w B a b c) : B < w.heap.size ∧ w.cell? ⟨B, 0, none⟩ = some a ∧ w.cell? ⟨B, 1, none⟩ = some b ∧ w.cell? ⟨B, 2, none⟩ = some c ∧ w.frozen? ⟨B, 0, none⟩ = false ∧ w.frozen? ⟨B, 1, none⟩ = false ∧ w.frozen? ⟨B, 2, none⟩ = false :=
  ⟨Blk.lt h, (Blk.cell h 0).trans rfl, (Blk.cell h 1).trans rfl, (Blk.cell h 2).trans rfl, Blk.frozen h 0, Blk.frozen h 1, Blk.frozen h 2⟩
theorem Box3.step {w w' : World} {B : Nat} {a b c : Value} (h : Box3 w B a b c) (hb : Below w.heap.size w w') : Box3 w' B a b c := Blk.below h hb (Blk.lt h)
theorem Box3.new (w : World) (a b c : Value) : Box3 (w.alloc (.cells #[a, b, c] 24)) w.heap.size a b c := Blk.new w _ _
theorem Box3.more {w : World} {B : Nat} {a b c : Value} (h : Box3 w B a b c) (o : Obj) : Box3 (w.alloc o) B a b c := Blk.alloc h o
theorem Box3.put {w : World} {B : Nat} {a b c : Value} (h : Box3 w B a b c) (a' b' c' : Value) : Box3 (((w.setCell ⟨B, 0, none⟩ a').setCell ⟨B, 1, none⟩ b').setCell ⟨B, 2, none⟩ c') B a' b' c' := by
  have := ((Blk.set_ h 0 a').set_ 1 b').set_ 2 c'
  unfold Box3
  simpa using this
theorem Box3.far {w : World} {B C : Nat} {a b c : Value} (h : Box3 w B a b c) (hne : B ≠ C) (a' b' c' : Value) : Box3 (((w.setCell ⟨C, 0, none⟩ a').setCell ⟨C, 1, none⟩ b').setCell ⟨C, 2, none⟩ c') B a b c :=
  Blk.far (Blk.far (Blk.far h (p := ⟨C, 0, none⟩) hne a') (p := ⟨C, 1, none⟩) hne b') (p := ⟨C, 2, none⟩) hne c'
theorem below_put {n : Nat} {w W : World} {A : Nat} (hb : Below n w W) (hA : n ≤ A) (a' b' c' : Value) : Below n w (((W.setCell ⟨A, 0, none⟩ a').setCell ⟨A, 1, none⟩ b').setCell ⟨A, 2, none⟩ c') :=
  ((hb.setCell (p := ⟨A, 0, none⟩) hA a').setCell (p := ⟨A, 1, none⟩) hA b').setCell (p := ⟨A, 2, none⟩) hA c'
theorem below_then {a b c : World} (h1 : Below a.heap.size a b) (h2 : Below b.heap.size b c) : Below a.heap.size a c := h1.trans (h2.mono h1.size)
set_option maxRecDepth 100000 in
set_option maxHeartbeats 1000000 in
theorem DyadMakes_law (z : Int) (g : Bool) (s : ByteArray) (x : Int) (fl : Nat) (w : World) (hz : -9223372036854775808 ≤ z ∧ z ≤ 9223372036854775807) (hs : s.size ≤ 9223372036854775807) (hx : -9223372036854775808 ≤ x ∧ x ≤ 9223372036854775807) (hfl : fl < 18446744073709551616) (hG : Globs glT w) :
    Calls Tryd.prog 4 #[.int .i64 z, .bool g, .string s, .int .i64 x, .float .f64 fl] w fun e w' => e = .returned (.bool true) ∧ Below w.heap.size w w' := by
  obtain ⟨d1, e1, K1, L1⟩ := two_of_ z x hz hx
  obtain ⟨d2, e2, K2, L2⟩ := two_make g s x hs hx
  obtain ⟨d3, e3, K3, L3⟩ := two_float fl hfl
  obtain ⟨g1, n1, x1⟩ := d1
  obtain ⟨g2, n2, x2⟩ := d2
  obtain ⟨g3, n3, x3⟩ := d3
  have K1 := Lib.hid K1
  have K2 := Lib.hid K2
  have K3 := Lib.hid K3
  have L1 := Lib.hid L1
  have L2 := Lib.hid L2
  have L3 := Lib.hid L3
  have HG := Lib.hid hG
  clear hz hs hx hfl hG
  go_enter Tryd.func4, Tryd.ntmps4
  go_wp2_with fail
  refine (K1.out _ HG.out).mono ?_
  rintro e w1 ⟨rfl, hb1⟩
  unfold Dy.v
  go_wp2_with fail
  refine (L1.out _).mono ?_
  rintro e w2 ⟨rfl, hb2⟩
  have X := (Box3.new w1 (.bool g1) (.string (natS n1)) (.int .i64 x1)).step hb2
  have hb := below_chain hb1 (box_below hb2)
  obtain ⟨A, hA⟩ : ∃ A, A = w1.heap.size := ⟨_, rfl⟩
  have hAw : w.heap.size ≤ A := by rw [hA]; exact hb1.size
  rw [← hA] at X ⊢
  clear hb1 hb2 hA
  unfold Dy.v
  obtain ⟨p0, p1, p2, p3, p4, p5, p6⟩ := X.facts
  go_wp2_with fail
  refine (K2.out _ (HG.out.below (hb.trans ((Below.refl _ _).alloc hb.size _)) (Nat.le_refl _))).mono ?_
  rintro e w3 ⟨rfl, hb3⟩
  have Y := (Box3.new w2 (.bool g1) (.string (natS n1)) (.int .i64 x1)).step hb3
  have X := (X.more (.cells #[.bool g1, .string (natS n1), .int .i64 x1] 24)).step hb3
  have hb := below_chain hb (box_below hb3)
  have hne : A ≠ w2.heap.size := by omega
  obtain ⟨B, hB⟩ : ∃ B, B = w2.heap.size := ⟨_, rfl⟩
  have hBw : w.heap.size ≤ B := by omega
  rw [← hB] at Y hne ⊢
  clear hb3 hB p0 p1 p2 p3 p4 p5 p6
  obtain ⟨p0, p1, p2, p3, p4, p5, p6⟩ := X.facts
  obtain ⟨q0, q1, q2, q3, q4, q5, q6⟩ := Y.facts
  unfold Dy.v
  go_wp2_with fail
  refine (L2.out _).mono ?_
  rintro e w4 ⟨rfl, hb4⟩
  have Y := (Y.far hne.symm (.bool g2) (.string (natS n2)) (.int .i64 x2)).step hb4
  have X := (X.put (.bool g2) (.string (natS n2)) (.int .i64 x2)).step hb4
  have hb := below_then (below_put hb hAw _ _ _) hb4
  clear hb4 p0 p1 p2 p3 p4 p5 p6 q0 q1 q2 q3 q4 q5 q6
  obtain ⟨p0, p1, p2, p3, p4, p5, p6⟩ := X.facts
  obtain ⟨q0, q1, q2, q3, q4, q5, q6⟩ := Y.facts
  unfold Dy.v
  go_wp2_with fail
  refine (K3.out _ (HG.out.below (below_put hb hBw _ _ _) (Nat.le_refl _))).mono ?_
  rintro e w5 ⟨rfl, hb5⟩
  have X := (X.far hne (.bool g2) (.string (natS n2)) (.int .i64 x2)).step hb5
  have Y := (Y.put (.bool g2) (.string (natS n2)) (.int .i64 x2)).step hb5
  have hb := below_then (below_put hb hBw _ _ _) hb5
  clear hb5 p0 p1 p2 p3 p4 p5 p6 q0 q1 q2 q3 q4 q5 q6
  obtain ⟨p0, p1, p2, p3, p4, p5, p6⟩ := X.facts
  obtain ⟨q0, q1, q2, q3, q4, q5, q6⟩ := Y.facts
  unfold Dy.v
  go_wp2_with fail
  refine (L3.out _).mono ?_
  rintro e w6 ⟨rfl, hb6⟩
  have Y := (Y.far hne.symm (.bool g3) (.string (natS n3)) (.int .i64 x3)).step hb6
  have X := (X.put (.bool g3) (.string (natS n3)) (.int .i64 x3)).step hb6
  have hb := below_then (below_put hb hAw _ _ _) hb6
  clear hb6 p0 p1 p2 p3 p4 p5 p6 q0 q1 q2 q3 q4 q5 q6
  obtain ⟨p0, p1, p2, p3, p4, p5, p6⟩ := X.facts
  obtain ⟨q0, q1, q2, q3, q4, q5, q6⟩ := Y.facts
  unfold Dy.v
  go_wp2_with fail
  refine (awake3_c _ (HG.out.below (below_put hb hBw _ _ _) (Nat.le_refl _))).mono ?_
  rintro e w7 ⟨rfl, hb7⟩
  have hb := below_then (below_put hb hBw _ _ _) hb7
  go_wp2_with fail
  go_ret
  exact ⟨rfl, hb⟩
end Go.Proofs.YtjkonfopajihdaaDoor
set_option linter.unusedSimpArgs false
set_option linter.unusedVariables false
namespace Go.Proofs.YtjkonfopajihdaaDoor
open Go Go.RowKit Nt

/-- From w on, with two Dyads in boxes. -/
def TB (w : World) (a b : Dt) (W : World) : Prop := Below w.heap.size w W ∧ Box3 W w.heap.size (.bool a.g) (.string a.s) (.int .i64 a.x) ∧ Box3 W (w.heap.size + 1) (.bool b.g) (.string b.s) (.int .i64 b.x)
theorem TB.start (w : World) (a b : Dt) : TB w a b ((w.alloc (.cells #[.bool a.g, .string a.s, .int .i64 a.x] 24)).alloc (.cells #[.bool b.g, .string b.s, .int .i64 b.x] 24)) := by
  have e : (w.alloc (.cells #[.bool a.g, .string a.s, .int .i64 a.x] 24)).heap.size = w.heap.size + 1 := by simp
  refine ⟨((Below.refl _ _).alloc (Nat.le_refl _) _).alloc (by simp) _, (Box3.new w _ _ _).more _, ?_⟩
  rw [← e]
  exact Box3.new _ _ _ _
theorem TB.step {w : World} {a b : Dt} {W W' : World} (h : TB w a b W) (hb : Below W.heap.size W W') : TB w a b W' := ⟨below_then h.1 hb, h.2.1.step hb, h.2.2.step hb⟩
theorem TB.more {w : World} {a b : Dt} {W : World} (h : TB w a b W) (o : Obj) : TB w a b (W.alloc o) := h.step ((Below.refl _ _).alloc (Nat.le_refl _) _)
theorem TB.drawn {w : World} {a b : Dt} {W : World} (h : TB w a b W) (n : Nat) : TB w a b (W.drewN n) := h.step (below_drewN (Below.refl _ _) n)
theorem TB.drew {w : World} {a b : Dt} {W : World} (h : TB w a b W) : TB w a b W.drew := h.step (Below.refl _ _).drew
/-- Where the highest one stands. -/
@[irreducible] def topD (d : Dy) : Int := (nd 2 d.n : Nat) - 1 + d.x
theorem topD_eq (d : Dy) : topD d = (nd 2 d.n : Nat) - 1 + d.x := by unfold topD; rfl
@[irreducible] def upN (a b : Dy) : Nat := a.n * 2 ^ (a.x - b.x).toNat
theorem upN_eq (a b : Dy) : upN a b = a.n * 2 ^ (a.x - b.x).toNat := by unfold upN; rfl
@[irreducible] def magC (a b : Dy) : Int := if topD a < topD b then -1 else if topD b < topD a then 1 else cmpN (upN a b) (upN b a)
theorem magC_lt {a b : Dy} (h : topD a < topD b) : magC a b = -1 := by unfold magC; rw [if_pos h]
theorem magC_gt {a b : Dy} (h : topD b < topD a) : magC a b = 1 := by unfold magC; rw [if_neg (by omega), if_pos h]
theorem magC_eq {a b : Dy} (h : topD a = topD b) : magC a b = cmpN (upN a b) (upN b a) := by unfold magC; rw [if_neg (by omega), if_neg (by omega)]
def Dy.t (d : Dy) : Dt := ⟨d.g, natS d.n, d.x⟩
theorem Dy.t_ok {d : Dy} (h : d.Num) : d.t.Ok := Or.inr ⟨d.n, h.1, h.2.1, rfl, h.2.2.1, h.2.2.2⟩
theorem up_fits {a b : Dy} (ha : a.Num) (hb : b.Num) (h : topD a = topD b) (hx : b.x < a.x) : fits (a.n * 2 ^ (a.x - b.x).toNat) ∧ upN a b = a.n * 2 ^ (a.x - b.x).toNat ∧ upN b a = b.n := by
  refine ⟨(fits_shift (odd_ne ha.2.1)).2 ?_, upN_eq a b, ?_⟩
  · have h1 := bits_131072' hb.1
    rw [topD_eq, topD_eq] at h
    omega
  · rw [upN_eq, show (b.x - a.x).toNat = 0 by omega, Nat.pow_zero, Nat.mul_one]
set_option maxRecDepth 100000 in
set_option maxHeartbeats 2000000 in
theorem Dmag_c (a b : Dy) (w : World) (ha : a.Num) (hb : b.Num) :
    Calls Tryd.prog 76 #[.agg #[.bool a.g, .string (natS a.n), .int .i64 a.x], .agg #[.bool b.g, .string (natS b.n), .int .i64 b.x]] w fun e w' => e = .returned (.int .i64 (magC a b)) ∧ Below w.heap.size w w' := by
  have KA := Lib.hid (fun w => DTop_num a.g a.n a.x w ha.1 ha.2.1 ha.2.2.1 ha.2.2.2)
  have KB := Lib.hid (fun w => DTop_num b.g b.n b.x w hb.1 hb.2.1 hb.2.2.1 hb.2.2.2)
  rw [← topD_eq] at KA KB
  have HA := Lib.hid ha
  have HB := Lib.hid hb
  have hxa := ha.2.2
  have hxb := hb.2.2
  have T0 := TB.start w a.t b.t
  unfold Dy.t at T0
  have hcase : topD a < topD b ∨ topD b < topD a ∨ (topD a = topD b ∧ b.x < a.x) ∨ (topD a = topD b ∧ a.x < b.x) ∨ (topD a = topD b ∧ a.x = b.x) := by omega
  clear ha hb
  rcases hcase with h | h | ⟨h, hx⟩ | ⟨h, hx⟩ | ⟨h, hx⟩
  · have HE := Lib.hid (magC_lt h)
    generalize topD a = ta at *
    generalize topD b = tb at *
    go_enter Tryd.func76, Tryd.ntmps76
    go_wp2_with fail
    refine (KA.out _).mono ?_
    rintro e w1 ⟨rfl, hb⟩
    replace T0 := T0.step hb
    obtain ⟨p0, p1, p2, p3, p4, p5, p6⟩ := T0.2.1.facts
    obtain ⟨q0, q1, q2, q3, q4, q5, q6⟩ := T0.2.2.facts
    clear hb
    go_wp2_with fail
    refine (KB.out _).mono ?_
    rintro e w2 ⟨rfl, hb⟩
    replace T0 := T0.step hb
    clear hb p0 p1 p2 p3 p4 p5 p6 q0 q1 q2 q3 q4 q5 q6
    go_wp2_with fail
    go_ret
    exact ⟨by rw [HE.out]; rfl, T0.1⟩
  · have HE := Lib.hid (magC_gt h)
    generalize topD a = ta at *
    generalize topD b = tb at *
    go_enter Tryd.func76, Tryd.ntmps76
    go_wp2_with fail
    refine (KA.out _).mono ?_
    rintro e w1 ⟨rfl, hb⟩
    replace T0 := T0.step hb
    obtain ⟨p0, p1, p2, p3, p4, p5, p6⟩ := T0.2.1.facts
    obtain ⟨q0, q1, q2, q3, q4, q5, q6⟩ := T0.2.2.facts
    clear hb
    go_wp2_with fail
    refine (KB.out _).mono ?_
    rintro e w2 ⟨rfl, hb⟩
    replace T0 := T0.step hb
    clear hb p0 p1 p2 p3 p4 p5 p6 q0 q1 q2 q3 q4 q5 q6
    go_wp2_with fail
    go_ret
    exact ⟨by rw [HE.out]; rfl, T0.1⟩
  · obtain ⟨hf, hu, hv⟩ := up_fits HA.out HB.out h hx
    obtain ⟨j, hj⟩ : ∃ j, j = (a.x - b.x).toNat := ⟨_, rfl⟩
    rw [← hj] at hf hu
    have KS := Lib.hid (fun w => NShift_up a.n j w HA.out.1 (odd_ne HA.out.2.1) (by omega) hf)
    have KC : Hid (∀ w, Calls Tryd.prog 112 #[.string (natS (a.n * 2 ^ j)), .string (natS b.n)] w (IntPost (magC a b) 0 w)) := Lib.hid fun w => by
      rw [magC_eq h]
      rw [hu, hv]
      exact NCmp_c _ _ w hf HB.out.1
    have hjx : a.x - b.x = (j : Int) := by omega
    have hj0 : (0 : Int) < (j : Int) := by omega
    obtain ⟨z, hz⟩ : ∃ z, z = a.n * 2 ^ j := ⟨_, rfl⟩
    rw [← hz] at KS KC
    clear hf hu hv hj hx hz
    rw [h] at KA
    clear h
    generalize topD b = tb at *
    go_enter Tryd.func76, Tryd.ntmps76
    go_wp2_with fail
    refine (KA.out _).mono ?_
    rintro e w1 ⟨rfl, hb⟩
    replace T0 := T0.step hb
    obtain ⟨p0, p1, p2, p3, p4, p5, p6⟩ := T0.2.1.facts
    obtain ⟨q0, q1, q2, q3, q4, q5, q6⟩ := T0.2.2.facts
    clear hb
    go_wp2_with fail
    refine (KB.out _).mono ?_
    rintro e w2 ⟨rfl, hb⟩
    replace T0 := T0.step hb
    clear hb p0 p1 p2 p3 p4 p5 p6 q0 q1 q2 q3 q4 q5 q6
    obtain ⟨p0, p1, p2, p3, p4, p5, p6⟩ := T0.2.1.facts
    obtain ⟨q0, q1, q2, q3, q4, q5, q6⟩ := T0.2.2.facts
    go_wp2_with fail
    go_quiet (fail)
    rename_i nq
    replace T0 := T0.drawn nq
    generalize w2.drewN nq = w3 at *
    clear p0 p1 p2 p3 p4 p5 p6 q0 q1 q2 q3 q4 q5 q6
    obtain ⟨p0, p1, p2, p3, p4, p5, p6⟩ := T0.2.1.facts
    obtain ⟨q0, q1, q2, q3, q4, q5, q6⟩ := T0.2.2.facts
    go_wp2_with (first
      | (go_at_call 65; refine (KS.out _).mono ?_; rintro e w4 ⟨rfl, hb⟩; replace T0 := T0.step hb; clear hb)
      | (go_at_call 112; refine (KC.out _).mono ?_; rintro e w5 ⟨rfl, hb⟩; replace T0 := T0.step hb; clear hb))
    go_ret
    exact ⟨rfl, T0.1⟩
  · obtain ⟨hf, hu, hv⟩ := up_fits HB.out HA.out h.symm hx
    obtain ⟨j, hj⟩ : ∃ j, j = (b.x - a.x).toNat := ⟨_, rfl⟩
    rw [← hj] at hf hu
    have KS := Lib.hid (fun w => NShift_up b.n j w HB.out.1 (odd_ne HB.out.2.1) (by omega) hf)
    have KC : Hid (∀ w, Calls Tryd.prog 112 #[.string (natS a.n), .string (natS (b.n * 2 ^ j))] w (IntPost (magC a b) 0 w)) := Lib.hid fun w => by
      rw [magC_eq h]
      rw [hv, hu]
      exact NCmp_c _ _ w HA.out.1 hf
    have hjx : b.x - a.x = (j : Int) := by omega
    have hj0 : (0 : Int) < (j : Int) := by omega
    obtain ⟨z, hz⟩ : ∃ z, z = b.n * 2 ^ j := ⟨_, rfl⟩
    rw [← hz] at KS KC
    have hjn : a.x - b.x = -(j : Int) := by omega
    have hjm : ¬ (0 : Int) < -(j : Int) := by omega
    clear hf hu hv hj hx hz hjx
    rw [h] at KA
    clear h
    generalize topD b = tb at *
    go_enter Tryd.func76, Tryd.ntmps76
    go_wp2_with fail
    refine (KA.out _).mono ?_
    rintro e w1 ⟨rfl, hb⟩
    replace T0 := T0.step hb
    obtain ⟨p0, p1, p2, p3, p4, p5, p6⟩ := T0.2.1.facts
    obtain ⟨q0, q1, q2, q3, q4, q5, q6⟩ := T0.2.2.facts
    clear hb
    go_wp2_with fail
    refine (KB.out _).mono ?_
    rintro e w2 ⟨rfl, hb⟩
    replace T0 := T0.step hb
    clear hb p0 p1 p2 p3 p4 p5 p6 q0 q1 q2 q3 q4 q5 q6
    obtain ⟨p0, p1, p2, p3, p4, p5, p6⟩ := T0.2.1.facts
    obtain ⟨q0, q1, q2, q3, q4, q5, q6⟩ := T0.2.2.facts
    go_wp2_with fail
    go_quiet (fail)
    rename_i nq
    replace T0 := T0.drawn nq
    generalize w2.drewN nq = w3 at *
    clear p0 p1 p2 p3 p4 p5 p6 q0 q1 q2 q3 q4 q5 q6
    obtain ⟨p0, p1, p2, p3, p4, p5, p6⟩ := T0.2.1.facts
    obtain ⟨q0, q1, q2, q3, q4, q5, q6⟩ := T0.2.2.facts
    go_wp2_with (first
      | (go_at_call 65; refine (KS.out _).mono ?_; rintro e w4 ⟨rfl, hb⟩; replace T0 := T0.step hb; clear hb)
      | (go_at_call 112; refine (KC.out _).mono ?_; rintro e w5 ⟨rfl, hb⟩; replace T0 := T0.step hb; clear hb))
    go_ret
    exact ⟨rfl, T0.1⟩
  · have KS := Lib.hid (fun w => NShift_stay b.n w HB.out.1 (odd_ne HB.out.2.1))
    have KC : Hid (∀ w, Calls Tryd.prog 112 #[.string (natS a.n), .string (natS b.n)] w (IntPost (magC a b) 0 w)) := Lib.hid fun w => by
      rw [magC_eq h, upN_eq, upN_eq, show (a.x - b.x).toNat = 0 by omega, show (b.x - a.x).toNat = 0 by omega, Nat.pow_zero, Nat.mul_one, Nat.mul_one]
      exact NCmp_c _ _ w HA.out.1 HB.out.1
    have hjn : a.x - b.x = 0 := by omega
    rw [h] at KA
    clear h hx
    generalize topD b = tb at *
    go_enter Tryd.func76, Tryd.ntmps76
    go_wp2_with fail
    refine (KA.out _).mono ?_
    rintro e w1 ⟨rfl, hb⟩
    replace T0 := T0.step hb
    obtain ⟨p0, p1, p2, p3, p4, p5, p6⟩ := T0.2.1.facts
    obtain ⟨q0, q1, q2, q3, q4, q5, q6⟩ := T0.2.2.facts
    clear hb
    go_wp2_with fail
    refine (KB.out _).mono ?_
    rintro e w2 ⟨rfl, hb⟩
    replace T0 := T0.step hb
    clear hb p0 p1 p2 p3 p4 p5 p6 q0 q1 q2 q3 q4 q5 q6
    obtain ⟨p0, p1, p2, p3, p4, p5, p6⟩ := T0.2.1.facts
    obtain ⟨q0, q1, q2, q3, q4, q5, q6⟩ := T0.2.2.facts
    go_wp2_with fail
    go_quiet (fail)
    rename_i nq
    replace T0 := T0.drawn nq
    generalize w2.drewN nq = w3 at *
    clear p0 p1 p2 p3 p4 p5 p6 q0 q1 q2 q3 q4 q5 q6
    obtain ⟨p0, p1, p2, p3, p4, p5, p6⟩ := T0.2.1.facts
    obtain ⟨q0, q1, q2, q3, q4, q5, q6⟩ := T0.2.2.facts
    go_wp2_with (first
      | (go_at_call 65; refine (KS.out _).mono ?_; rintro e w4 ⟨rfl, hb⟩; replace T0 := T0.step hb; clear hb)
      | (go_at_call 112; refine (KC.out _).mono ?_; rintro e w5 ⟨rfl, hb⟩; replace T0 := T0.step hb; clear hb))
    go_ret
    exact ⟨rfl, T0.1⟩
end Go.Proofs.YtjkonfopajihdaaDoor
