/- Texts put together: Ev8 Ev9 Ev9a Ev9b Ev9c Ev10 Ev11 EvT N0 N1 P1 N2 N10 N3 Shelf N4. -/
import Derived.Test.YtajcapliokblfaaDoorQ1
import Derived.OrdersHeld
import Derived.Test.YtajcapliokblfaaDoorRows
import Derived.LaidSub
import Derived.Lib.LaidTab
import Derived.Lib.TrailingZeros
import Derived.IntWalk
import Derived.Lib.BitFns
import Derived.Below
import Derived.Laws.OwnMore
import Derived.Laws.Rows
import Derived.Deep.Draws
import Derived.Deep.AppendLies
import Derived.OwnWalk
import Derived.Shelf.Small.Bits
import Derived.Shelf.Small.Wraps
import Derived.Shelf.Strconv.Itoa0
import Derived.Shelf.Strings.Search1
import Derived.Shelf.Strings.Search2
import Derived.Shelf.Strings.Cut
import Derived.Shelf.LaysM
import Derived.Shelf.Strings.Shaped
import Derived.Shelf.Strings.Prefix
import Derived.Shelf.Bits.Mul64
import Derived.Test.YtajcapliokblfaaDoorProg
import Derived.Shelf.Spec.TrailingZeros
import Derived.Shelf.Spec.BitsCarry
import Derived.WalkKit
import Derived.WalkLawsBesides
import Derived.WalkSpells
import Derived.Deep.QuietTactic
import Derived.BigQuiet
import Derived.Outline
import Derived.Lib.Hide
set_option linter.unusedVariables false
set_option linter.unusedSectionVars false
set_option linter.unusedSimpArgs false
namespace Go.Proofs.YtajcapliokblfaaDoor
open Go Go.RowKit
variable [Env] [Know]

section
variable {P : Program} {R : Rho}
/-- What a reckoner of calls promises. -/
def CallOk (P : Program) (call : CallE) : Prop := ∀ {floor : Nat} {g : FuncId} {l : List AV} {s : AS} {v : AV} {s' : AS}, call floor g l s = some (v, s') →
  ∀ {R : Rho} {w : World} {base : Nat} {xs : List Value}, Inv R s w floor base → VRels R l xs →
    Calls P g xs.toArray w fun e w' => ∃ R' x, e = .returned x ∧ VRel R' v x ∧ Went R R' s s' w w' floor base
theorem entered_run {g : FuncId} (h : entered P g = true) (xs : Array Value) (w : World) : (callFunc g xs).run P w = .ok (.enter g xs) w := by
  unfold entered at h
  split at h
  · rename_i fn hfn
    simp only [Bool.and_eq_true, Bool.not_eq_true'] at h
    have hb : ¬ fn.body = none := by intro e; rw [e] at h; simp at h
    have h2 : ¬ fn.name = "runtime.NumGoroutine" := by simpa using h.2
    simp [callFunc, hfn, h2, hb]
  · cases h
theorem callOf_ok {f : Fr} {a : Act} {o : Oper} {g : FuncId} {l : List AV} (h : callOf P f o = some (g, l)) (hf : FRel R f a.tmps) :
    ∃ xs, VRels R l xs ∧ ∀ w, (execOp a.eval o).run P w = .ok (.enter g xs.toArray) w := by
  unfold callOf at h
  obtain ⟨dst, op, type, pos, after, guard⟩ := o
  simp only at h
  split at h
  · rename_i x args argTypes
    split at h
    · rename_i g' fa fb hc
      split at h
      · rename_i he
        injection h with h
        injection h with h1 h2
        subst h1 h2
        have r := opnd_ok hf x
        rw [appL_eq, appL_eq]
        unfold calleeOf at hc
        split at hc
        · rename_i g2 p q e1
          injection hc with hc
          injection hc with h1 hc
          injection hc with h2 h3
          subst h1 h2 h3
          rw [e1] at r
          have r := lit_inv r
          rw [mapL_eq AV.lit, mapL_eq AV.lit]
          refine ⟨p.toList ++ (args.toList.map a.eval ++ q.toList), (VRels.lits_ _).append ((mapEval hf _).append (VRels.lits_ _)), fun w => ?_⟩
          simp only [execOp, resolve, r, Deferred.ofValue, Sem.run_bind, Sem.run_pure, Result.andThen_ok, invoke, entered_run he]
          congr 2
          apply Array.ext'
          simp
        · rename_i g2 p q e1
          injection hc with hc
          injection hc with h1 hc
          injection hc with h2 h3
          subst h1 h2 h3
          rw [e1] at r
          simp only [VRel] at r
          obtain ⟨as1, bs, r1, r2, r3⟩ := r
          refine ⟨as1 ++ (args.toList.map a.eval ++ bs), r1.append ((mapEval hf _).append r2), fun w => ?_⟩
          simp only [execOp, resolve, r3, Deferred.ofValue, Sem.run_bind, Sem.run_pure, Result.andThen_ok, invoke, entered_run he]
          congr 2
          apply Array.ext'
          simp
        · cases hc
      · cases h
    · cases h
  · rename_i x name args argTypes
    unfold methodOf at h
    split at h
    · rename_i t v e
      split at h
      · rename_i g' r hm
        split at h
        · rename_i he
          injection h with h
          injection h with h1 h2
          subst h1 h2
          have r0 := opnd_ok hf x
          rw [e] at r0
          have r0 := lit_inv r0
          refine ⟨r :: args.toList.map a.eval, VRels.cons (VRel.lit_ _) (mapEval hf _), fun w => ?_⟩
          have hrun := runPure_ok hm w
          have hx : (#[Value.iface t v] ++ args.map a.eval).extract 1 (#[Value.iface t v] ++ args.map a.eval).size = args.map a.eval := by
            apply Array.ext'
            simp [List.take_of_length_le]
          have h0 : (#[Value.iface t v] ++ args.map a.eval)[0]? = some (.iface t v) := by rw [Array.getElem?_append_left (by simp)]; rfl
          simp only [execOp, resolve, r0, invoke, Sem.run_bind, Sem.run_pure, Result.andThen_ok, h0, hx, callMethod]
          have hp : ∀ w, Sem.run P program w = Result.ok P w := fun _ => rfl
          simp only [hp, Result.andThen_ok, hrun, entered_run he]
          congr 2
          apply Array.ext'
          simp
        · cases h
      · cases h
    · cases h
  · cases h
theorem putA_ok {f : Fr} {a : Act} (hf : FRel R f a.tmps) (d : Option Tmp) {v : AV} {x : Value} (h : VRel R v x) : FRel R (putA f d v) (a.put d x).tmps := by
  cases d with
  | none => exact hf
  | some d => exact hf.set d h
theorem put_defers (a : Act) (d : Option Tmp) (x : Value) : (a.put d x).defers = a.defers := by cases d <;> rfl
theorem yielded_ok {f : Fr} {a : Act} (hf : FRel R f a.tmps) (ops : Array Oper) (j : Nat) (hs : symAt ops f j = false) : yieldedA ops f j = yielded ops a.tmps j := by
  unfold symAt at hs
  unfold yieldedA yielded
  cases hd : (ops[j]?).bind (·.dst) with
  | none => simp
  | some d =>
    rw [hd] at hs
    simp only [Option.bind_some]
    have hg := hf.get d
    have hx : ∀ x, a.tmps.getD d undef = x → (∀ b, x ≠ .bool b) → (match a.tmps[d]? with | some (.bool b) => some b | _ => none) = (none : Option Bool) := by
      intro x hx hn
      rw [Array.getD_eq_getD_getElem?] at hx
      cases hv : a.tmps[d]? with
      | none => rfl
      | some y =>
        rw [hv] at hx
        have hx : y = x := hx
        subst hx
        cases y <;> first | rfl | exact absurd rfl (hn _)
    cases hv : getF f d with
    | lit u =>
      rw [hv] at hg
      have e := lit_inv hg
      by_cases hb : ∃ b, u = .bool b
      · obtain ⟨b, rfl⟩ := hb
        have : a.tmps[d]? = some (.bool b) := by
          rw [Array.getD_eq_getD_getElem?] at e
          cases hv2 : a.tmps[d]? with
          | none => rw [hv2] at e; cases e
          | some y => rw [hv2] at e; exact congrArg some e
        rw [this]
      · have h9 := hx _ e (fun b c => hb ⟨b, c⟩)
        cases u <;> first | exact absurd ⟨_, rfl⟩ hb | exact h9.symm
    | ptr k off => rw [hv] at hg; obtain ⟨_, _, _, e⟩ := ptr_inv hg; exact (hx _ e (fun b c => by cases c)).symm
    | sl k off len c sz => rw [hv] at hg; obtain ⟨_, _, _, _, e, _⟩ := sl_inv hg; exact (hx _ e (fun b c => by cases c)).symm
    | emp => rw [hv] at hg; simp only [VRel] at hg; obtain ⟨_, _, e⟩ := hg; exact (hx _ e (fun b c => by cases c)).symm
    | agg vs => rw [hv] at hg; simp only [VRel] at hg; obtain ⟨_, _, e⟩ := hg; exact (hx _ e (fun b c => by cases c)).symm
    | tup vs => rw [hv] at hg; simp only [VRel] at hg; obtain ⟨_, _, e⟩ := hg; exact (hx _ e (fun b c => by cases c)).symm
    | ifc t v => rw [hv] at hg; simp only [VRel] at hg; obtain ⟨_, _, e⟩ := hg; exact (hx _ e (fun b c => by cases c)).symm
    | fn g p q => rw [hv] at hg; simp only [VRel] at hg; obtain ⟨_, _, _, _, e⟩ := hg; exact (hx _ e (fun b c => by cases c)).symm
    | sym i => simp only [hv] at hs; cases hs
    | row n o l => rw [hv] at hg; simp only [VRel] at hg
theorem wantA_ok {f : Fr} {a : Act} (hf : FRel R f a.tmps) {ops : Array Oper} {o : Oper} {b : Bool} (h : wantA ops f o = some b) : Region.wanted o (yielded ops a.tmps) = b := by
  unfold wantA at h
  unfold Region.wanted
  split at h
  · rename_i hg
    rw [hg]
    injection h
  · rename_i j c hg
    rw [hg]
    split at h
    · cases h
    · rename_i hs
      injection h with h
      rw [← h, yielded_ok hf ops j hs]
/-- One operation, carried out. -/
theorem evalOp_ok (hK : KnowOk P) {call : CallE} (hcall : CallOk P call) {fl base : Nat} {s s' : AS} {w : World} (hI : Inv R s w fl base) {f : Fr} {a : Act} {o : Oper} (hf : FRel R f a.tmps) {v : AV}
    (h : evalOp P call fl f o s = some (v, s')) {next : Act → World → Prop} {Q : Exit → Act → World → Prop}
    (hn : ∀ R' x w', VRel R' v x → Went R R' s s' w w' fl base → next (a.put o.dst x) w') :
    o.wp P a w next Q := by
  rw [evalOp_eq] at h
  unfold evalOp0 at h
  unfold Oper.wp
  split at h
  · rename_i g l hc
    obtain ⟨xs, h1, h2⟩ := callOf_ok hc hf
    rw [h2 w, Oper.upon_enter]
    refine (hcall h hI h1).mono fun e w' ⟨R', x, he, hx, hw⟩ => ?_
    subst he
    exact hn R' x w' hx hw
  · rename_i hc
    split at h
    · rename_i r hr
      injection h with h
      subst h
      obtain ⟨nx, x, w', R', q1, q2, q3, q4⟩ := evalMem_ok (P := P) hI hf hr
      rw [q1]
      have := hn R' x w' q3 q4
      rcases q2 with rfl | ⟨rfl, rfl⟩
      · exact this
      · exact this
    · split at h
      · rename_i u hu
        injection h with h
        injection h with h1 h2
        subst h1 h2
        obtain ⟨x, hx, hrun⟩ := evalWl_ok hK hu hf
        rw [hrun w]
        exact hn R x w hx (Went.refl hI)
      · cases h
/-- One behind the other. -/
theorem evalSeq_ok (hK : KnowOk P) {call : CallE} (hcall : CallOk P call) {floor base : Nat} {ops : Array Oper} {Q : Exit → Act → World → Prop} : ∀ (l : List Oper) {R : Rho} {f f' : Fr} {s s' : AS} {a : Act} {w : World},
    evalSeq P call floor ops l f s = some (f', s') → Inv R s w floor base → FRel R f a.tmps →
    (∀ R' a' w', Went R R' s s' w w' floor base → FRel R' f' a'.tmps → a'.defers = a.defers → Q .normal a' w') → wpList P ops Q l a w
  | [], R, f, f', s, s', a, w, h, hI, hf, hQ => by
    have h' : some (f, s) = some (f', s') := h
    injection h' with h'
    injection h' with h1 h2
    subst h1 h2
    exact hQ R a w (Went.refl hI) hf rfl
  | o :: l, R, f, f', s, s', a, w, h, hI, hf, hQ => by
    have h' : (match wantA ops f o with
      | some true => match evalOp P call floor f o s with
        | some (v, s') => evalSeq P call floor ops l (putA f o.dst v) s'
        | none => none
      | some false => evalSeq P call floor ops l (putA f o.dst (.lit undef)) s
      | none => none) = some (f', s') := h
    unfold wpList
    split at h'
    · rename_i hw
      have hw := wantA_ok hf hw
      rw [if_pos hw]
      left
      split at h'
      · rename_i v s1 he
        refine evalOp_ok hK hcall hI hf he fun R' x w' hx hg => ?_
        refine evalSeq_ok hK hcall l h' hg.inv (putA_ok (hf.ext hg.ext) o.dst hx) fun R'' a'' w'' hg2 hf2 hd => hQ R'' a'' w'' (hg.trans hg2) hf2 (hd.trans (put_defers _ _ _))
      · cases h'
    · rename_i hw
      have hw := wantA_ok hf hw
      rw [if_neg (by simp [hw])]
      exact evalSeq_ok hK hcall l h' hI (putA_ok hf o.dst (VRel.lit_ _)) fun R'' a'' w'' hg2 hf2 hd => hQ R'' a'' w'' hg2 hf2 (hd.trans (put_defers _ _ _))
    · cases h'
end
end Go.Proofs.YtajcapliokblfaaDoor
set_option linter.unusedVariables false
set_option linter.unusedSimpArgs false
namespace Go.Proofs.YtajcapliokblfaaDoor
open Go Go.RowKit

/-- One operation waits for another, through whatever others. -/
inductive ReachE (ops : Array Oper) : Nat → Nat → Prop
  | edge {j : Nat} {o : Oper} {e : Edge} : ops[j]? = some o → e ∈ o.after → Region.binds .any e = true → ReachE ops j e.on
  | next {j k : Nat} {o : Oper} {e : Edge} : ReachE ops j k → ops[k]? = some o → e ∈ o.after → Region.binds .any e = true → ReachE ops j e.on
/-- What has come up came up behind all that it waits for. -/
def Down (ops : Array Oper) (listed : Array Bool) : Prop := ∀ j o, ops[j]? = some o → listed.getD j false = true → ∀ e ∈ o.after, Region.binds .any e = true → listed.getD e.on false = true
section
variable {ops : Array Oper}
theorem Down.reach {listed : Array Bool} (h : Down ops listed) {j i : Nat} (hr : ReachE ops j i) (h1 : ∀ o, ops[j]? = some o → ∀ e ∈ o.after, Region.binds .any e = true → listed.getD e.on false = true) : listed.getD i false = true := by
  induction hr with
  | edge ho he hb => exact h1 _ ho _ he hb
  | next _ ho he hb ih => exact h _ _ ho ih _ he hb
theorem Down.of_listed {listed : Array Bool} (h : Down ops listed) {j i : Nat} (hr : ReachE ops j i) (hj : listed.getD j false = true) : listed.getD i false = true :=
  h.reach hr fun o ho e he hb => h j o ho hj e he hb
theorem getD_set_cases {listed : Array Bool} {i j : Nat} (h : (listed.setIfInBounds i true).getD j false = true) : j = i ∨ listed.getD j false = true := by
  by_cases hij : i = j
  · exact .inl hij.symm
  · exact .inr (by rw [getD_set_ne false hij] at h; exact h)
theorem Down.set {listed : Array Bool} (h : Down ops listed) {i : Nat} (hi : i ∈ Region.ready .any ops listed) : Down ops (listed.setIfInBounds i true) := by
  intro j o ho hj e he hb
  rcases getD_set_cases hj with rfl | hj
  · obtain ⟨_, o', ho', hall⟩ := mem_ready.1 hi
    rw [ho] at ho'
    injection ho' with ho'
    subst ho'
    exact getD_set_true (hall e he hb)
  · exact getD_set_true (h j o ho hj e he hb)
theorem getD_tf {listed : Array Bool} {i : Nat} (h : listed.getD i true = false) : listed.getD i false = false := by
  rcases Nat.lt_or_ge i listed.size with h' | h'
  · simp [h'] at h ⊢; exact h
  · simp [Array.getElem?_eq_none h'] at h
/-- How many have not come up. -/
def cnt (listed : Array Bool) : Nat := listed.toList.count false
theorem cnt_set {listed : Array Bool} {i : Nat} (h : listed.getD i true = false) : cnt (listed.setIfInBounds i true) + 1 = cnt listed := by
  have hi : i < listed.size := by
    rcases Nat.lt_or_ge i listed.size with h' | h'
    · exact h'
    · simp [Array.getElem?_eq_none h'] at h
  have hv : listed[i] = false := by simpa [hi] using h
  unfold cnt
  rw [Array.toList_setIfInBounds]
  have hi' : i < listed.toList.length := by simpa using hi
  have e := List.count_set (a := true) (b := false) hi'
  have hg : listed.toList[i] = false := by simpa using hv
  have hpos : 0 < listed.toList.count false := List.count_pos_iff.2 (by rw [← hg]; exact List.getElem_mem hi')
  have e1 : (if (listed.toList[i] == false) = true then 1 else 0) = 1 := by rw [hg]; rfl
  have e2 : (if (true == false) = true then 1 else 0) = 0 := rfl
  rw [e, e1, e2]
  omega
theorem cnt_pos {listed : Array Bool} {i : Nat} (h : listed.getD i true = false) : 0 < cnt listed := by have := cnt_set h; omega
end
/-- A state that an operation may still meet. -/
def Si (ops : Array Oper) (S : Array Bool → World → Prop) (i : Nat) (w : World) : Prop := ∃ L, Down ops L ∧ L.getD i true = false ∧ S L w
/-- Whatever order is picked from here on. -/
def wpAnyU (P : Program) (ops : Array Oper) (Q : Exit → Act → World → Prop) (S : Array Bool → World → Prop) : Nat → Array Bool → Act → World → Prop
  | 0, listed, a, w => Region.ready .any ops listed = [] ∧ Q .normal a w
  | fuel + 1, listed, a, w => (Region.ready .any ops listed = [] → Q .normal a w) ∧
    ∀ i ∈ Region.ready .any ops listed, wpOp P ops Q i (fun a' w' => S (listed.setIfInBounds i true) w' ∧ wpAnyU P ops Q S fuel (listed.setIfInBounds i true) a' w') a w
section
variable {P : Program} {ops : Array Oper} {Q : Exit → Act → World → Prop} {S : Array Bool → World → Prop}
theorem wpAny_of_U : ∀ (fuel : Nat) {listed : Array Bool} {a : Act} {w : World}, wpAnyU P ops Q S fuel listed a w → wpAny P .any ops Q fuel listed a w
  | 0, _, _, _, h => h
  | fuel + 1, _, _, _, h => ⟨h.1, fun i hi => wpOp_mono (fun a' w' h' => wpAny_of_U fuel h'.2) (h.2 i hi)⟩
theorem wpAnyU_done {listed : Array Bool} {a : Act} {w : World} (hr : Region.ready .any ops listed = []) (h : Q .normal a w) : ∀ fuel, wpAnyU P ops Q S fuel listed a w
  | 0 => ⟨hr, h⟩
  | _ + 1 => ⟨fun _ => h, by rw [hr]; simp⟩
theorem wpAnyU_first (hns : Region.noSelect ops = true) (hmono : ∀ L i w, S L w → S (L.setIfInBounds i true) w) (hQ : ∀ c a w, ¬ Q (.panic c) a w) {i : Nat} {oi : Oper} {v : Value} (hi : ops[i]? = some oi) :
    ∀ (fuel : Nat) (listed : Array Bool) (a : Act) (w : World),
      (∀ j oj, ops[j]? = some oj → j ≠ i → listed.getD j true = false → (∀ e ∈ oj.after, Region.binds .any e = true → e.on ≠ i) → oi.apart ops oj = true) →
      (∀ L w, S (L.setIfInBounds i true) w → S L w) → i ∈ Region.ready .any ops listed → Down ops listed → YieldsIf P ops (Si ops S i) oi v a → S listed w →
      wpAnyU P ops Q S fuel (listed.setIfInBounds i true) (a.put oi.dst v) w → wpAnyU P ops Q S (fuel + 1) listed a w := by
  have hsel := Region.noSelect_spec hns
  have hin : i < ops.size := (Array.getElem?_eq_some_iff.1 hi).1
  intro fuel
  induction fuel with
  | zero =>
    intro listed a w _ hin2 hr hd hy hS H
    have hun := (mem_ready.1 hr).1
    refine ⟨fun h => (by rw [h] at hr; cases hr), fun j hj => ?_⟩
    by_cases hji : j = i
    · subst hji; exact hy.wpOp hi ⟨listed, hd, hun, hS⟩ ⟨hmono _ _ _ hS, H⟩
    · have := ready_mono hj hji
      rw [H.1] at this
      cases this
  | succ fuel ih =>
    intro listed a w hfree hin2 hr hd hy hS H
    have hun := (mem_ready.1 hr).1
    refine ⟨fun h => (by rw [h] at hr; cases hr), fun j hj => ?_⟩
    by_cases hji : j = i
    · subst hji; exact hy.wpOp hi ⟨listed, hd, hun, hS⟩ ⟨hmono _ _ _ hS, H⟩
    · have h1 := H.2 j (ready_mono hj hji)
      obtain ⟨hjun, oj, hoj, hall⟩ := mem_ready.1 hj
      have hnot : ∀ e ∈ oj.after, Region.binds .any e = true → e.on ≠ i := fun e he hb heq => by
        have h1 := hall e he hb
        rw [heq, getD_tf hun] at h1
        cases h1
      have h2 := wpOp_putIf hoj (hfree j oj hoj hji hjun hnot) (fun cs b => hsel i oi cs b hi) (fun cs b => hsel j oj cs b hoj) (fun c a w h => absurd h (hQ _ _ _)) hy h1
      have hun2 : (listed.setIfInBounds j true).getD i true = false := by rw [getD_set_ne true hji]; exact hun
      refine wpOp_mono (fun a' w' h3 => ?_) h2
      obtain ⟨hy', hS', H'⟩ := h3
      rw [Array.setIfInBounds_comm _ _ (Ne.symm hji)] at hS' H'
      have hS2 := hin2 _ _ hS'
      refine ⟨hS2, ih (listed.setIfInBounds j true) a' w' (fun k ok hk hki hun3 hno => hfree k ok hk hki ?_ hno) hin2 (ready_mono hr (Ne.symm hji)) (hd.set hj) hy' hS2 H'⟩
      by_cases hjk : j = k
      · subst hjk; exact hjun
      · rw [getD_set_ne true hjk] at hun3; exact hun3
theorem wpAnyU_take (hns : Region.noSelect ops = true) (hmono : ∀ L i w, S L w → S (L.setIfInBounds i true) w) (hQ : ∀ c a w, ¬ Q (.panic c) a w) {i : Nat} {oi : Oper} {v : Value} {fuel : Nat} {listed : Array Bool} {a : Act} {w : World} (hi : ops[i]? = some oi)
    (hf : Region.free .any ops listed i = true) (hin2 : ∀ L w, S (L.setIfInBounds i true) w → S L w) (hr : i ∈ Region.ready .any ops listed) (hd : Down ops listed) (hy : YieldsIf P ops (Si ops S i) oi v a) (hS : S listed w)
    (h : wpAnyU P ops Q S fuel (listed.setIfInBounds i true) (a.put oi.dst v) w) : wpAnyU P ops Q S (fuel + 1) listed a w :=
  wpAnyU_first hns hmono hQ hi fuel listed a w (Region.free_spec hi hf) hin2 hr hd hy hS h
end
end Go.Proofs.YtajcapliokblfaaDoor
set_option linter.unusedVariables false
set_option linter.unusedSectionVars false
set_option linter.unusedSimpArgs false
namespace Go.Proofs.YtajcapliokblfaaDoor
open Go Go.RowKit
variable [Env] [Know]

theorem testBit_or_pow (m i j : Nat) : (m ||| 2 ^ i).testBit j = (m.testBit j || decide (i = j)) := by
  rw [Nat.testBit_or, Nat.testBit_two_pow]
theorem depM_bit (o : Oper) (j : Nat) : (depM o).testBit j = true ↔ ∃ e ∈ o.after, Region.binds .any e = true ∧ e.on = j := by
  have key : ∀ l : List Edge, (l.foldr (fun e m => if Region.binds .any e then m ||| (2 ^ e.on) else m) 0).testBit j = true ↔ ∃ e ∈ l, Region.binds .any e = true ∧ e.on = j := by
    intro l
    induction l with
    | nil => simp
    | cons e l ih =>
      rw [List.foldr_cons]
      by_cases hb : Region.binds .any e = true
      · rw [if_pos hb, testBit_or_pow]
        simp only [Bool.or_eq_true, ih, decide_eq_true_eq, List.mem_cons]
        constructor
        · rintro (⟨x, hx, h⟩ | h)
          · exact ⟨x, .inr hx, h⟩
          · exact ⟨e, .inl rfl, hb, h⟩
        · rintro ⟨x, rfl | hx, h1, h2⟩
          · exact .inr h2
          · exact .inl ⟨x, hx, h1, h2⟩
      · rw [if_neg hb, ih]
        constructor
        · rintro ⟨x, hx, h⟩; exact ⟨x, List.mem_cons_of_mem _ hx, h⟩
        · rintro ⟨x, hx, h1, h2⟩
          rcases List.mem_cons.1 hx with rfl | hx
          · exact absurd h1 hb
          · exact ⟨x, hx, h1, h2⟩
  unfold depM
  rw [key]
  simp
theorem lookM_bit (ops : Array Oper) (o : Oper) (t : Nat) : (lookM ops o).testBit t = true ↔ t ∈ o.looksAt ops := by
  unfold lookM
  generalize o.looksAt ops = l
  induction l with
  | nil => simp
  | cons e l ih =>
    rw [List.foldr_cons, testBit_or_pow]
    simp only [Bool.or_eq_true, ih, decide_eq_true_eq, List.mem_cons]
    constructor
    · rintro (h | h)
      · exact .inr h
      · exact .inl h.symm
    · rintro (h | h)
      · exact .inr h.symm
      · exact .inl h
theorem recs_map (ops : Array Oper) : ∀ (l : List Oper) (k : Nat), (recs ops l k).map (·.i) = List.range' k l.length
  | [], k => rfl
  | o :: l, k => by simp [recs, recs_map ops l (k + 1), List.range'_succ]
theorem recs_mem (ops : Array Oper) (l : List Oper) : ∀ (k : Nat) (r : Rec), r ∈ recs ops l k → ∃ j, l[j]? = some r.o ∧ r.i = k + j ∧ r.deps = depM r.o ∧ r.looks = lookM ops r.o := by
  induction l with
  | nil => intro k r h; cases h
  | cons o l ih =>
    intro k r h
    unfold recs at h
    rcases List.mem_cons.1 h with h | h
    · refine ⟨0, ?_, ?_, ?_, ?_⟩ <;> rw [h] <;> simp
    · obtain ⟨j, h1, h2, h3⟩ := ih (k + 1) r h
      exact ⟨j + 1, by simpa using h1, by omega, h3⟩
/-- All the operations. -/
noncomputable def allR (ops : Array Oper) : List Rec := recs ops ops.toList 0
theorem allR_map (ops : Array Oper) : (allR ops).map (·.i) = List.range ops.size := by
  unfold allR; rw [recs_map, List.range_eq_range']; simp
theorem allR_mem {ops : Array Oper} {r : Rec} (h : r ∈ allR ops) : ops[r.i]? = some r.o ∧ r.deps = depM r.o ∧ r.looks = lookM ops r.o := by
  obtain ⟨j, h1, h2, h3⟩ := recs_mem ops ops.toList 0 r h
  refine ⟨?_, h3⟩
  rw [h2, Nat.zero_add, ← Array.getElem?_toList]
  exact h1
theorem allR_ex {ops : Array Oper} {i : Nat} (h : i < ops.size) : ∃ r ∈ allR ops, r.i = i := by
  have : i ∈ (allR ops).map (·.i) := by rw [allR_map]; exact List.mem_range.2 h
  obtain ⟨r, h1, h2⟩ := List.mem_map.1 this
  exact ⟨r, h1, h2⟩
theorem allR_inj {ops : Array Oper} {r q : Rec} (h : r ∈ allR ops) (h' : q ∈ allR ops) (e : r.i = q.i) : r = q := by
  obtain ⟨h1, h2, h3⟩ := allR_mem h
  obtain ⟨g1, g2, g3⟩ := allR_mem h'
  rw [e, g1] at h1
  injection h1 with h1
  obtain ⟨i, o, d, l⟩ := r
  obtain ⟨i', o', d', l'⟩ := q
  simp only at *
  subst h1 e
  rw [h2, g2, h3, g3]
theorem stepM_bit {c x : Nat} : ∀ {l : List Rec}, (stepM c l).testBit x = true → c.testBit x = true ∨ ∃ r ∈ l, c.testBit r.i = true ∧ r.deps.testBit x = true
  | [], h => .inl h
  | r :: l, h => by
    have h' : (Bool.rec (stepM c l) (stepM c l ||| r.deps) (c.testBit r.i) : Nat).testBit x = true := h
    cases hb : c.testBit r.i with
    | false =>
      rw [hb] at h'
      rcases stepM_bit h' with h1 | ⟨q, hq, h1⟩
      · exact .inl h1
      · exact .inr ⟨q, List.mem_cons_of_mem _ hq, h1⟩
    | true =>
      rw [hb] at h'
      rw [Nat.testBit_or, Bool.or_eq_true] at h'
      rcases h' with h' | h'
      · rcases stepM_bit h' with h1 | ⟨q, hq, h1⟩
        · exact .inl h1
        · exact .inr ⟨q, List.mem_cons_of_mem _ hq, h1⟩
      · exact .inr ⟨r, List.mem_cons_self, hb, h'⟩
theorem closM_ok {ops : Array Oper} {j : Nat} : ∀ (n : Nat) {m : Nat}, (∀ x, m.testBit x = true → ReachE ops j x) → ∀ x, (closM (allR ops) n m).testBit x = true → ReachE ops j x
  | 0, m, h, x, hx => h x hx
  | n + 1, m, h, x, hx => by
    have hx' : (stepM (closM (allR ops) n m) (allR ops)).testBit x = true := hx
    rcases stepM_bit hx' with h1 | ⟨r, hr, h1, h2⟩
    · exact closM_ok n h x h1
    · have h3 := closM_ok n h r.i h1
      obtain ⟨g1, g2, _⟩ := allR_mem hr
      rw [g2, depM_bit] at h2
      obtain ⟨e, he, hb, rfl⟩ := h2
      exact .next h3 g1 he hb
theorem waitsR_ok {ops : Array Oper} {q : Rec} {i : Nat} (hq : ops[q.i]? = some q.o) (hd : q.deps = depM q.o) (h : waitsR (allR ops) q i = true) : ReachE ops q.i i := by
  have base : ∀ x, q.deps.testBit x = true → ReachE ops q.i x := by
    intro x hx
    rw [hd, depM_bit] at hx
    obtain ⟨e, he, hb, rfl⟩ := hx
    exact .edge hq he hb
  unfold waitsR at h
  rw [Bool.or_eq_true] at h
  rcases h with h | h
  · exact base i h
  · exact closM_ok 8 base i h
theorem hasK_false {l : List (Nat × Nat)} {k : Nat} (h : hasK l k = false) : ∀ p ∈ l, p.2 ≠ k := by
  induction l with
  | nil => simp
  | cons a l ih =>
    have h' : (Bool.rec (hasK l k) true (Nat.beq a.2 k) : Bool) = false := h
    cases hb : Nat.beq a.2 k with
    | true => rw [hb] at h'; cases h'
    | false =>
      rw [hb] at h'
      intro p hp
      rcases List.mem_cons.1 hp with rfl | hp
      · exact Nat.ne_of_beq_eq_false hb
      · exact ih h' p hp
theorem waitsAll_ok {ops : Array Oper} {i : Nat} {ws : List Nat} {kl : List (Nat × Nat)} (h : waitsAll ops i ws kl = true) : ∀ q ∈ kl, q.2 ∈ ws → ReachE ops i q.1 := by
  intro q hq hk
  unfold waitsAll at h
  rw [allL_eq, List.all_eq_true] at h
  have := h q hq
  simp only [Bool.or_eq_true, Bool.not_eq_true'] at this
  rcases this with h1 | h1
  · rw [hasN_iff.2 hk] at h1; cases h1
  · split at h1
    · rename_i o ho
      exact waitsR_ok (q := ⟨i, o, depM o, 0⟩) ho rfl h1
    · cases h1
end Go.Proofs.YtajcapliokblfaaDoor
set_option linter.unusedVariables false
set_option linter.unusedSectionVars false
set_option linter.unusedSimpArgs false
namespace Go.Proofs.YtajcapliokblfaaDoor
open Go Go.RowKit
variable [Env] [Know]

/-- A cell made ahead of the plan. -/
structure Tk where
  i : Nat
  d : Tmp
  b : Nat
  ty : TypeId
  C : Array Value
def Tk.p (t : Tk) : Value := .pointer (some ⟨t.b, 0, none⟩)
def putT : List Tk → Act → Act
  | [], a => a
  | t :: T, a => (putT T a).put (some t.d) t.p
def setT : List Tk → Array Bool → Array Bool
  | [], l => l
  | t :: T, l => (setT T l).setIfInBounds t.i true
theorem putT_put : ∀ (T : List Tk) (a : Act) (y : Option Tmp) (u : Value), (∀ t ∈ T, y ≠ some t.d) → putT T (a.put y u) = (putT T a).put y u
  | [], _, _, _, _ => rfl
  | t :: T, a, y, u, h => by
    show (putT T (a.put y u)).put (some t.d) t.p = ((putT T a).put (some t.d) t.p).put y u
    rw [putT_put T a y u (fun t' ht => h t' (List.mem_cons_of_mem _ ht))]
    exact Act.put_comm _ _ _ (fun d hd e => h t List.mem_cons_self (hd.trans e.symm))
theorem putT_defers : ∀ (T : List Tk) (a : Act), (putT T a).defers = a.defers
  | [], _ => rfl
  | t :: T, a => putT_defers T a
theorem setT_set : ∀ (T : List Tk) (L : Array Bool) (i : Nat), setT T (L.setIfInBounds i true) = (setT T L).setIfInBounds i true
  | [], _, _ => rfl
  | t :: T, L, i => by
    show (setT T (L.setIfInBounds i true)).setIfInBounds t.i true = ((setT T L).setIfInBounds t.i true).setIfInBounds i true
    rw [setT_set T L i]
    by_cases h : t.i = i
    · rw [h]
    · exact Array.setIfInBounds_comm _ _ (fun e => h e.symm)
theorem setT_in : ∀ {T : List Tk} {L : Array Bool} {j : Nat}, (setT T L).getD j false = true → L.getD j false = true ∨ ∃ t ∈ T, t.i = j
  | [], _, _, h => .inl h
  | t :: T, L, j, h => by
    rcases getD_set_cases (show ((setT T L).setIfInBounds t.i true).getD j false = true from h) with h1 | h1
    · exact .inr ⟨t, List.mem_cons_self, h1.symm⟩
    · rcases setT_in h1 with h2 | ⟨t', ht, h2⟩
      · exact .inl h2
      · exact .inr ⟨t', List.mem_cons_of_mem _ ht, h2⟩
theorem setT_up : ∀ {T : List Tk} {L : Array Bool} {j : Nat}, L.getD j false = true → (setT T L).getD j false = true
  | [], _, _, h => h
  | t :: T, L, j, h => getD_set_true (setT_up h)
theorem setT_ne : ∀ {T : List Tk} {L : Array Bool} {j : Nat} (d : Bool), (∀ t ∈ T, t.i ≠ j) → (setT T L).getD j d = L.getD j d
  | [], _, _, _, _ => rfl
  | t :: T, L, j, d, h => by
    show ((setT T L).setIfInBounds t.i true).getD j d = _
    rw [getD_set_ne d (h t List.mem_cons_self), setT_ne d (fun t' ht => h t' (List.mem_cons_of_mem _ ht))]
theorem setT_un : ∀ {T : List Tk} {L : Array Bool} {j : Nat}, (setT T L).getD j true = false → L.getD j true = false ∧ ∀ t ∈ T, t.i ≠ j
  | [], _, _, h => ⟨h, fun _ h => by cases h⟩
  | t :: T, L, j, h => by
    have h : ((setT T L).setIfInBounds t.i true).getD j true = false := h
    by_cases hj : t.i = j
    · subst hj
      exfalso
      rcases Nat.lt_or_ge t.i (setT T L).size with h' | h'
      · simp [Array.getD, h'] at h
      · simp [Array.getD, Nat.not_lt.2 h'] at h
    · rw [getD_set_ne true hj] at h
      obtain ⟨h1, h2⟩ := setT_un h
      refine ⟨h1, fun t' ht => ?_⟩
      rcases List.mem_cons.1 ht with rfl | ht
      · exact hj
      · exact h2 t' ht
theorem setT_size : ∀ (T : List Tk) (L : Array Bool), (setT T L).size = L.size
  | [], _ => rfl
  | t :: T, L => by show ((setT T L).setIfInBounds t.i true).size = _; rw [Array.size_setIfInBounds]; exact setT_size T L
/-- One is taken out of the list. -/
theorem setT_out : ∀ (T1 : List Tk) {T2 : List Tk} {t : Tk} (L : Array Bool), setT (T1 ++ t :: T2) L = setT (T1 ++ T2) (L.setIfInBounds t.i true)
  | [], T2, t, L => (setT_set T2 L t.i).symm
  | u :: T1, T2, t, L => congrArg (·.setIfInBounds u.i true) (setT_out T1 L)
theorem putT_out : ∀ (T1 : List Tk) {T2 : List Tk} {t : Tk} (a : Act), (∀ u ∈ T2, t.d ≠ u.d) → putT (T1 ++ t :: T2) a = putT (T1 ++ T2) (a.put (some t.d) t.p)
  | [], T2, t, a, h => (putT_put T2 a (some t.d) t.p (fun u hu e => h u hu (Option.some.inj e))).symm
  | u :: T1, T2, t, a, h => congrArg (·.put (some u.d) u.p) (putT_out T1 a h)
section
variable {P : Program} {ops : Array Oper} {Q : Exit → Act → World → Prop}
theorem wpOp_unput (hQ : ∀ c a w, ¬ Q (.panic c) a w) {j : Nat} {oj : Oper} {d : Tmp} {v : Value} (hj : ops[j]? = some oj) (hsj : ∀ cs b, oj.op ≠ .select cs b) (h1 : d ∉ oj.looksAt ops) (h2 : oj.dst ≠ some d) {K : Act → World → Prop} {a : Act} {w : World}
    (h : wpOp P ops Q j (fun a' w' => K (a'.put (some d) v) w') a w) : wpOp P ops Q j K (a.put (some d) v) w := by
  have h1' : ∀ d', some d = some d' → d' ∉ oj.looksAt ops := fun d' e => by injection e with e; subst e; exact h1
  have h2' : ∀ d', some d = some d' → oj.dst ≠ some d' := fun d' e => by injection e with e; subst e; exact h2
  unfold wpOp at *
  simp only [hj] at *
  rw [wanted_put oj a (some d) v h1']
  split
  · rename_i hw
    simp only [hw, if_true] at h
    rcases h with h | ⟨hasks, hlets⟩
    case inr => exact .inr ⟨by unfold Oper.asks at *; rw [execOp_put oj hsj a (some d) v h1']; exact hasks, hlets⟩
    refine .inl ?_
    unfold Oper.wp at *
    rw [execOp_put oj hsj a (some d) v h1']
    generalize (execOp a.eval oj).run P w = r at *
    cases r with
    | ok n w' =>
      cases n <;> simp only [Oper.upon] at h ⊢
      case value u => rw [Act.put_comm a v u h2']; exact h
      case skip => rw [Act.put_comm a v undef h2']; exact h
      case defer d0 =>
        have e := Act.put_comm { a with defers := d0 :: a.defers } v undef h2'
        have : ({ a.put (some d) v with defers := d0 :: (a.put (some d) v).defers } : Act) = ({ a with defers := d0 :: a.defers } : Act).put (some d) v := rfl
        rw [this, e]
        exact h
      case enter f args =>
        refine Calls.mono h fun e w'' he => ?_
        cases e with
        | returned u => show K ((a.put (some d) v).put oj.dst u) w''; rw [Act.put_comm a v u h2']; exact he
        | panicked c => exact absurd he (hQ _ _ _)
        | outgrown => exact he
      case row row args => exact Rows.mono h fun u w'' he => by rw [Act.put_comm a v u h2']; exact he
    | halt x w' =>
      cases x <;> simp only [Oper.upon] at h ⊢
      case panic u => exact absurd h (hQ _ _ _)
  · rename_i hw
    simp only [hw] at h
    rw [Act.put_comm a v undef h2']
    exact h
theorem wpOp_putT (hQ : ∀ c a w, ¬ Q (.panic c) a w) {j : Nat} {oj : Oper} (hj : ops[j]? = some oj) (hsj : ∀ cs b, oj.op ≠ .select cs b) : ∀ (T : List Tk), (∀ t ∈ T, t.d ∉ oj.looksAt ops ∧ oj.dst ≠ some t.d) → ∀ {K : Act → World → Prop} {a : Act} {w : World},
    wpOp P ops Q j (fun a' w' => K (putT T a') w') a w → wpOp P ops Q j K (putT T a) w
  | [], _, _, _, _, h => h
  | t :: T, hT, K, a, w, h => by
    obtain ⟨h1, h2⟩ := hT t List.mem_cons_self
    refine wpOp_unput hQ hj hsj h1 h2 ?_
    exact wpOp_putT hQ hj hsj T (fun t' ht => hT t' (List.mem_cons_of_mem _ ht)) (K := fun a' w' => K (a'.put (some t.d) t.p) w') h
theorem execOp_putT {o : Oper} (hs : ∀ cs b, o.op ≠ .select cs b) : ∀ (T : List Tk) (a : Act), (∀ t ∈ T, t.d ∉ o.looksAt ops ∧ o.dst ≠ some t.d) → execOp (putT T a).eval o = execOp a.eval o
  | [], _, _ => rfl
  | t :: T, a, h => by
    show execOp ((putT T a).put (some t.d) t.p).eval o = _
    rw [execOp_put (ops := ops) o hs (putT T a) (some t.d) t.p (fun d e => by injection e with e; subst e; exact (h t List.mem_cons_self).1)]
    exact execOp_putT hs T a fun t' ht => h t' (List.mem_cons_of_mem _ ht)
theorem wanted_putT {o : Oper} : ∀ (T : List Tk) (a : Act), (∀ t ∈ T, t.d ∉ o.looksAt ops ∧ o.dst ≠ some t.d) → Region.wanted o (yielded ops (putT T a).tmps) = Region.wanted o (yielded ops a.tmps)
  | [], _, _ => rfl
  | t :: T, a, h => by
    show Region.wanted o (yielded ops ((putT T a).put (some t.d) t.p).tmps) = _
    rw [wanted_put o (putT T a) (some t.d) t.p (fun d e => by injection e with e; subst e; exact (h t List.mem_cons_self).1)]
    exact wanted_putT T a fun t' ht => h t' (List.mem_cons_of_mem _ ht)
end
/-- The floating operations. -/
def FloOk (P : Program) (ops : Array Oper) (fl : Nat → Bool) : Prop := ∀ i, fl i = true → ∃ o ty d inf z, ops[i]? = some o ∧ o.op = .alloc ty ∧ o.dst = some d ∧ o.guard = none ∧ P.info? ty = some inf ∧ inf.zero = some z ∧
  (∀ e ∈ o.after, Region.binds .any e = false) ∧ ∀ j oj, ops[j]? = some oj → j ≠ i → (∃ e ∈ oj.after, Region.binds .any e = true ∧ e.on = i) ∨ o.apart ops oj = true
/-- What waits for another floating one waits for r, too. -/
def Wt (ops : Array Oper) (fl : Nat → Bool) (L : Array Bool) (r : Nat) : Prop := ∀ i, fl i = true → i ≠ r → L.getD i true = false → ∀ j oj, ops[j]? = some oj → L.getD j true = false → (∃ e ∈ oj.after, Region.binds .any e = true ∧ e.on = i) → ReachE ops j r
/-- These steps stand for every order. -/
def PlanOk (ops : Array Oper) (fl : Nat → Bool) : List Stp → Array Bool → Prop
  | [], l => Region.ready .any ops l = []
  | .early i :: r, l => fl i = false ∧ i ∈ Region.ready .any ops l ∧ Region.free .any ops l i = true ∧ True ∧ PlanOk ops fl r (l.setIfInBounds i true)
  | .held i :: r, l => fl i = false ∧ i ∈ Region.ready .any ops l ∧ Region.free .any ops l i = true ∧ True ∧ PlanOk ops fl r (l.setIfInBounds i true)
  | .solo i :: r, l => fl i = false ∧ i ∈ Region.ready .any ops l ∧ (∀ j ∈ Region.ready .any ops l, j = i ∨ fl j = true) ∧ Wt ops fl l i ∧ PlanOk ops fl r (l.setIfInBounds i true)
  | .flo i :: r, l => fl i = true ∧ i ∈ Region.ready .any ops l ∧ (∀ j ∈ Region.ready .any ops l, fl j = true) ∧ Wt ops fl l i ∧ PlanOk ops fl r (l.setIfInBounds i true)
  | .pair i j :: r, l => (∀ x, fl x = false) ∧ Region.ready .any ops l = [i, j] ∧ Region.ready .any ops (l.setIfInBounds i true) = [j] ∧ Region.ready .any ops (l.setIfInBounds j true) = [i] ∧
      (∃ a b, ops[i]? = some a ∧ ops[j]? = some b ∧ a.guard = none ∧ b.guard = none ∧ a.apart ops b = true ∧ i ≠ j) ∧ PlanOk ops fl r ((l.setIfInBounds i true).setIfInBounds j true)
section
variable {ops : Array Oper} {fl : Nat → Bool}
/-- Nothing comes up ahead that the plan does not see coming. -/
theorem noStray {LP : Array Bool} {T : List Tk} {r j : Nat} (hD : Down ops (setT T LP)) (hr : LP.getD r true = false) (hrT : ∀ t ∈ T, t.i ≠ r) (hwt : Wt ops fl LP r) (hT : ∀ t ∈ T, fl t.i = true ∧ LP.getD t.i true = false)
    (hj : j ∈ Region.ready .any ops (setT T LP)) : j ∈ Region.ready .any ops LP := by
  obtain ⟨hun, oj, hoj, hall⟩ := mem_ready.1 hj
  obtain ⟨hun1, _⟩ := setT_un hun
  refine mem_ready.2 ⟨hun1, oj, hoj, fun e he hb => ?_⟩
  rcases setT_in (hall e he hb) with h1 | ⟨t, ht, h1⟩
  · exact h1
  · exfalso
    obtain ⟨h2, h3⟩ := hT t ht
    have h4 := hwt t.i h2 (hrT t ht) h3 j oj hoj hun1 ⟨e, he, hb, h1.symm⟩
    have h5 := hD.reach h4 (fun o ho e he hb => by rw [hoj] at ho; injection ho with ho; subst ho; exact hall e he hb)
    rcases setT_in h5 with h6 | ⟨t', ht', h6⟩
    · rw [getD_tf hr] at h6; cases h6
    · exact hrT t' ht' h6
theorem ready_setT {LP : Array Bool} {j : Nat} (hj : j ∈ Region.ready .any ops LP) : ∀ {T : List Tk}, (∀ t ∈ T, t.i ≠ j) → j ∈ Region.ready .any ops (setT T LP)
  | [], _ => hj
  | t :: T, h => ready_mono (ready_setT hj (fun t' ht => h t' (List.mem_cons_of_mem _ ht))) (Ne.symm (h t List.mem_cons_self))
theorem free_setT {LP : Array Bool} {j : Nat} {T : List Tk} (h : Region.free .any ops LP j = true) : Region.free .any ops (setT T LP) j = true := by
  unfold Region.free at h ⊢
  split at h
  · cases h
  · rename_i oi hoi
    rw [List.all_eq_true] at h ⊢
    intro x hx
    have h1 := h x hx
    simp only [Bool.or_eq_true] at h1 ⊢
    rcases h1 with (h1 | h1) | h1
    · exact .inl (.inl h1)
    · refine .inl (.inr ?_)
      cases hc : (setT T LP).getD x true with
      | true => rfl
      | false => rw [(setT_un hc).1] at h1; cases h1
    · exact .inr h1
theorem free_set {LP : Array Bool} {j i : Nat} (h : Region.free .any ops LP j = true) : Region.free .any ops (LP.setIfInBounds i true) j = true :=
  free_setT (T := [⟨i, 0, 0, 0, #[]⟩]) h
/-- An operation that the plan sees is apart from what was made ahead. -/
theorem apartT {P : Program} (hfl : FloOk P ops fl) {LP : Array Bool} {T : List Tk} {j : Nat} {oj : Oper} (hoj : ops[j]? = some oj) (hj : j ∈ Region.ready .any ops LP) (hT : ∀ t ∈ T, fl t.i = true ∧ LP.getD t.i true = false ∧ ∃ o, ops[t.i]? = some o ∧ o.dst = some t.d) (hne : ∀ t ∈ T, t.i ≠ j) :
    ∀ t ∈ T, t.d ∉ oj.looksAt ops ∧ oj.dst ≠ some t.d := by
  intro t ht
  obtain ⟨h1, h2, o, ho, hd⟩ := hT t ht
  obtain ⟨o', ty, d, inf, z, g1, g2, g3, g4, g5, g6, g7, g8⟩ := hfl t.i h1
  rw [ho] at g1
  injection g1 with g1
  subst g1
  obtain ⟨hun, o2, ho2, hall⟩ := mem_ready.1 hj
  rw [hoj] at ho2
  injection ho2 with ho2
  subst ho2
  rcases g8 j oj hoj (Ne.symm (hne t ht)) with ⟨e, he, hb, hon⟩ | hap
  · have := hall e he hb
    rw [hon, getD_tf h2] at this
    cases this
  · obtain ⟨q1, q2, _⟩ := Oper.apart_spec hap
    exact ⟨q1 t.d hd, q2 t.d hd⟩
end
section
variable {P : Program}
theorem evalPlan_cons {call : CallE} {s0 : AS} {floor : Nat} {ops : Array Oper} {t : Stp} {l : List Stp} {f : Fr} {s : AS} {kl tl : List (Nat × Nat)} :
    evalPlan P call s0 floor ops (t :: l) f s kl tl = match planOne P call s0 floor ops t f s kl tl with
      | some (f', s', kl', tl') => evalPlan P call s0 floor ops l f' s' kl' tl'
      | none => none := rfl
/-- What one step does to the two lists. -/
theorem planOne_lists {call : CallE} {s0 : AS} {floor : Nat} {ops : Array Oper} {t : Stp} {f f' : Fr} {s s' : AS} {kl tl kl' tl' : List (Nat × Nat)} (h : planOne P call s0 floor ops t f s kl tl = some (f', s', kl', tl')) :
    (kl' = kl ∨ ∃ i k, t = .held i ∧ kl' = (i, k) :: kl ∧ hasK tl k = false) ∧ (tl' = tl ∨ ∃ i ws, t = .solo i ∧ tl' = ws.map (fun k => (i, k)) ++ tl ∧ waitsAll ops i ws kl = true) := by
  unfold planOne at h
  split at h
  · repeat' (split at h)
    all_goals first
      | (cases h; done)
      | (injection h with h; injection h with _ h; injection h with _ h; injection h with h1 h2; subst h1 h2; exact ⟨.inl rfl, .inl rfl⟩)
  · split at h
    · split at h
      · split at h
        · split at h
          · rename_i ht
            injection h with h; injection h with _ h; injection h with _ h; injection h with h1 h2; subst h1 h2
            exact ⟨.inr ⟨_, _, rfl, rfl, ht⟩, .inl rfl⟩
          · cases h
        · cases h
      · injection h with h; injection h with _ h; injection h with _ h; injection h with h1 h2; subst h1 h2; exact ⟨.inl rfl, .inl rfl⟩
      · cases h
    · cases h
  · split at h
    · split at h
      · split at h
        · split at h
          · rename_i ht
            injection h with h; injection h with _ h; injection h with _ h; injection h with h1 h2; subst h1 h2
            exact ⟨.inl rfl, .inr ⟨_, _, rfl, by rw [appL_eq, mapL_eq], ht⟩⟩
          · cases h
        · cases h
      · injection h with h; injection h with _ h; injection h with _ h; injection h with h1 h2; subst h1 h2; exact ⟨.inl rfl, .inl rfl⟩
      · cases h
    · cases h
  all_goals
    repeat' (split at h)
    all_goals first
      | (cases h; done)
      | (injection h with h; injection h with _ h; injection h with _ h; injection h with h1 h2; subst h1 h2; exact ⟨.inl rfl, .inl rfl⟩)
/-- The steps' own number has not come up. -/
theorem plan_un {ops : Array Oper} {fl : Nat → Bool} {t : Stp} {l : List Stp} {LP : Array Bool} (h : PlanOk ops fl (t :: l) LP) :
    ∃ LP', PlanOk ops fl l LP' ∧ (∀ j, LP'.getD j true = false → LP.getD j true = false) ∧ (∀ i, (t = .held i ∨ t = .solo i ∨ t = .early i) → LP.getD i true = false ∧ LP'.getD i true = true) := by
  have set_un : ∀ {L : Array Bool} {i j : Nat}, (L.setIfInBounds i true).getD j true = false → L.getD j true = false := fun {L i j} h => by
    by_cases e : i = j
    · subst e
      rcases Nat.lt_or_ge i L.size with h' | h'
      · simp [Array.getD, h'] at h
      · simp [Array.getD, Nat.not_lt.2 h'] at h
    · rw [getD_set_ne true e] at h; exact h
  have set_t : ∀ {L : Array Bool} {i : Nat}, (L.setIfInBounds i true).getD i true = true := fun {L i} => by
    rcases Nat.lt_or_ge i L.size with h' | h'
    · simp [Array.getD, h']
    · simp [Array.getD, Nat.not_lt.2 h']
  cases t with
  | early i => exact ⟨_, h.2.2.2.2, fun _ => set_un, fun k hk => by rcases hk with e | e | e <;> cases e; exact ⟨(mem_ready.1 h.2.1).1, set_t⟩⟩
  | held i => exact ⟨_, h.2.2.2.2, fun _ => set_un, fun k hk => by rcases hk with e | e | e <;> cases e; exact ⟨(mem_ready.1 h.2.1).1, set_t⟩⟩
  | solo i => exact ⟨_, h.2.2.2.2, fun _ => set_un, fun k hk => by rcases hk with e | e | e <;> cases e; exact ⟨(mem_ready.1 h.2.1).1, set_t⟩⟩
  | flo i => exact ⟨_, h.2.2.2.2, fun _ => set_un, fun k hk => by rcases hk with e | e | e <;> cases e⟩
  | pair i j => exact ⟨_, h.2.2.2.2.2, fun _ hx => set_un (set_un hx), fun k hk => by rcases hk with e | e | e <;> cases e⟩
theorem evalPlan_lists {call : CallE} {s0 : AS} {floor : Nat} {ops : Array Oper} {fl : Nat → Bool} : ∀ (l : List Stp) {LP : Array Bool} {f f' : Fr} {s s' : AS} {kl tl tf : List (Nat × Nat)}, PlanOk ops fl l LP → evalPlan P call s0 floor ops l f s kl tl = some (f', s', tf) →
    (∀ p ∈ tl, p ∈ tf) ∧ (∀ p ∈ tf, p ∈ tl ∨ LP.getD p.1 true = false) ∧ (∀ q ∈ kl, ∀ p ∈ tf, p.2 = q.2 → p ∈ tl ∨ ReachE ops p.1 q.1)
  | [], LP, f, f', s, s', kl, tl, tf, hp, h => by
    have h' : some (f, s, tl) = some (f', s', tf) := h
    injection h' with h'
    injection h' with _ h'
    injection h' with _ h'
    subst h'
    exact ⟨fun _ h => h, fun _ h => .inl h, fun _ _ _ h _ => .inl h⟩
  | t :: l, LP, f, f', s, s', kl, tl, tf, hp, h => by
    rw [evalPlan_cons] at h
    split at h
    · rename_i f1 s1 kl1 tl1 h1
      obtain ⟨a1, a2⟩ := planOne_lists h1
      obtain ⟨LP', p1, p2, p3⟩ := plan_un hp
      obtain ⟨b1, b2, b3⟩ := evalPlan_lists l p1 h
      have hkl : ∀ q ∈ kl, q ∈ kl1 := fun q hq => by
        rcases a1 with rfl | ⟨i, k, _, rfl, _⟩
        · exact hq
        · exact List.mem_cons_of_mem _ hq
      rcases a2 with rfl | ⟨i, k, e, rfl, hw⟩
      · refine ⟨b1, fun p hp => ?_, fun q hq p hp e => b3 q (hkl q hq) p hp e⟩
        rcases b2 p hp with h2 | h2
        · exact .inl h2
        · exact .inr (p2 _ h2)
      · obtain ⟨g1, g2⟩ := p3 i (.inr (.inl e))
        refine ⟨fun p hp => b1 p (List.mem_append_right _ hp), fun p hp => ?_, fun q hq p hp e2 => ?_⟩
        · rcases b2 p hp with h2 | h2
          · rcases List.mem_append.1 h2 with h2 | h2
            · obtain ⟨k', _, rfl⟩ := List.mem_map.1 h2
              exact .inr g1
            · exact .inl h2
          · exact .inr (p2 _ h2)
        · rcases b3 q (hkl q hq) p hp e2 with h2 | h2
          · rcases List.mem_append.1 h2 with h2 | h2
            · obtain ⟨k', hk', rfl⟩ := List.mem_map.1 h2
              exact .inr (waitsAll_ok hw q hq (by rw [← e2]; exact hk'))
            · exact .inl h2
          · exact .inr h2
    · cases h
end
end Go.Proofs.YtajcapliokblfaaDoor
set_option linter.unusedVariables false
set_option linter.unusedSectionVars false
set_option linter.unusedSimpArgs false
namespace Go.Proofs.YtajcapliokblfaaDoor
open Go Go.RowKit
variable [Env] [Know]

/-- What stood where the region began stands yet, where no writer has come up. -/
def Stands (R0 : Rho) (s0 : AS) (w0 : World) (tf : List (Nat × Nat)) (L : Array Bool) (w : World) : Prop :=
  ∀ k b T B, look k s0.h = some B → (∀ j, (j, k) ∈ tf → L.getD j false = false) → R0 k b T → w.heap[b]? = w0.heap[b]?
theorem getD_set_f {L : Array Bool} {i j : Nat} (h : (L.setIfInBounds i true).getD j false = false) : L.getD j false = false := by
  cases hc : L.getD j false with
  | false => rfl
  | true => rw [getD_set_true hc] at h; cases h
theorem Stands.set {R0 : Rho} {s0 : AS} {w0 : World} {tf : List (Nat × Nat)} (L : Array Bool) (i : Nat) (w : World) (h : Stands R0 s0 w0 tf L w) : Stands R0 s0 w0 tf (L.setIfInBounds i true) w :=
  fun k b T B hk hn hr => h k b T B hk (fun j hj => getD_set_f (hn j hj)) hr
theorem Stands.unset {R0 : Rho} {s0 : AS} {w0 : World} {tf : List (Nat × Nat)} {i : Nat} (hi : ∀ p ∈ tf, p.1 ≠ i) (L : Array Bool) (w : World) (h : Stands R0 s0 w0 tf (L.setIfInBounds i true) w) : Stands R0 s0 w0 tf L w :=
  fun k b T B hk hn hr => h k b T B hk (fun j hj => by rw [getD_set_ne false (Ne.symm (hi _ hj))]; exact hn j hj) hr
def Live (s0 : AS) (tf : List (Nat × Nat)) (LP : Array Bool) (s : AS) : Prop :=
  ∀ k B, look k s0.h = some B → (∀ j, (j, k) ∈ tf → LP.getD j false = false) → look k s.h = look k s0.h
/-- A cell that was made ahead. -/
structure TkOk (P : Program) (ops : Array Oper) (fl : Nat → Bool) (w0 : World) (R : Rho) (w : World) (LP : Array Bool) (t : Tk) : Prop where
  isf : fl t.i = true
  un : LP.getD t.i true = false
  op : ∃ o inf z, ops[t.i]? = some o ∧ o.op = .alloc t.ty ∧ o.dst = some t.d ∧ P.info? t.ty = some inf ∧ inf.zero = some z ∧ t.C = z.cells
  blk : w.heap[t.b]? = some (.cells t.C t.ty (0, 0))
  new : w0.heap.size ≤ t.b
  no : ∀ k T', ¬ R k t.b T'
def Far (t u : Tk) : Prop := t.b ≠ u.b ∧ t.i ≠ u.i ∧ t.d ≠ u.d
theorem Far.symm {t u : Tk} (h : Far t u) : Far u t := ⟨h.1.symm, h.2.1.symm, h.2.2.symm⟩
theorem wpOp_load {P : Program} {ops : Array Oper} {Q : Exit → Act → World → Prop} {i : Nat} {o : Oper} {K : Act → World → Prop} {a : Act} {w : World} {x : Value} (hi : ops[i]? = some o) (hg : o.guard = none) {w' : World}
    (hr : (execOp a.eval o).run P w = .ok (.value x) w') (h : K (a.put o.dst x) w') : wpOp P ops Q i K a w := by
  unfold wpOp
  simp only [hi]
  rw [if_pos (by simp [Region.wanted, hg])]
  left
  unfold Oper.wp
  rw [hr]
  exact h
theorem noSel_of {ops : Array Oper} (hs : Region.noSelect ops = true) {i : Nat} {o : Oper} (hi : ops[i]? = some o) : ∀ cs b, o.op ≠ .select cs b := fun cs b => Region.noSelect_spec hs i o cs b hi
section
variable {P : Program} {ops : Array Oper} {fl : Nat → Bool} {w0 : World}
theorem TkOk.turn {R R' : Rho} {w w' : World} {LP LP' : Array Bool} {t : Tk} (h : TkOk P ops fl w0 R w LP t) (hun : LP'.getD t.i true = false) (hb : w'.heap[t.b]? = w.heap[t.b]?) (hno : ∀ k T', ¬ R' k t.b T') : TkOk P ops fl w0 R' w' LP' t :=
  ⟨h.isf, hun, h.op, hb.trans h.blk, h.new, hno⟩
theorem TkOk.lt {R : Rho} {w : World} {LP : Array Bool} {t : Tk} (h : TkOk P ops fl w0 R w LP t) : t.b < w.heap.size := by
  rcases Nat.lt_or_ge t.b w.heap.size with c | c
  · exact c
  · have := h.blk; rw [Array.getElem?_eq_none c] at this; cases this
set_option maxHeartbeats 3200000 in
theorem evalPlan_ok (hKn : KnowOk P) {call : CallE} (hcall : CallOk P call) {R0 : Rho} {s0 : AS} {floor base : Nat} (hns : Region.noSelect ops = true) {Q : Exit → Act → World → Prop} (hQ : ∀ c a w, ¬ Q (.panic c) a w)
    (hfl : FloOk P ops fl) {tf : List (Nat × Nat)} (hI0 : Inv R0 s0 w0 floor base) {a0 : Act} {f' : Fr} {s' : AS}
    (hK : ∀ R' a' w', Went R0 R' s0 s' w0 w' floor base → FRel R' f' a'.tmps → a'.defers = a0.defers → Q .normal a' w') :
    ∀ (N : Nat) (l : List Stp) {fuel : Nat} {LP : Array Bool} {T : List Tk} {R : Rho} {f : Fr} {s : AS} {aP : Act} {w : World} {kl tl : List (Nat × Nat)},
      fuel + l.length ≤ N → PlanOk ops fl l LP → evalPlan P call s0 floor ops l f s kl tl = some (f', s', tf) →
      Down ops (setT T LP) → cnt (setT T LP) ≤ fuel → (∀ t ∈ T, TkOk P ops fl w0 R w LP t) → T.Pairwise Far → Went R0 R s0 s w0 w floor base → FRel R f aP.tmps → aP.defers = a0.defers →
      Live s0 tf LP s → Stands R0 s0 w0 tf (setT T LP) w → (∀ p ∈ tl, LP.getD p.1 true = true) →
      wpAnyU P ops Q (Stands R0 s0 w0 tf) fuel (setT T LP) (putT T aP) w := by
  have hsel := Region.noSelect_spec hns
  intro N
  induction N with
  | zero =>
    intro l fuel LP T R f s aP w kl tl hN hp h hD hc hT hTp hG hf hd hL hS htl
    obtain rfl : fuel = 0 := by omega
    obtain rfl : l = [] := List.eq_nil_of_length_eq_zero (by omega)
    have hTn : T = [] := by
      cases T with
      | nil => rfl
      | cons t T =>
        exfalso
        have h1 := hT t List.mem_cons_self
        obtain ⟨o, ty, d, inf, z, g1, g2, g3, g4, g5, g6, g7, g8⟩ := hfl t.i h1.isf
        have : t.i ∈ Region.ready .any ops LP := mem_ready.2 ⟨h1.un, o, g1, fun e he hb => by rw [g7 e he] at hb; cases hb⟩
        rw [show Region.ready .any ops LP = [] from hp] at this
        cases this
    subst hTn
    have h' : some (f, s, tl) = some (f', s', tf) := h
    injection h' with h'
    injection h' with h1 h'
    injection h' with h2 h3
    subst h1 h2
    exact wpAnyU_done hp (hK R aP w hG hf hd) _
  | succ N ih =>
    intro l fuel LP T R f s aP w kl tl hN hp h hD hc hT hTp hG hf hd hL hS htl
    have hI := hG.inv
    have hTf : ∀ t ∈ T, fl t.i = true ∧ LP.getD t.i true = false := fun t ht => ⟨(hT t ht).isf, (hT t ht).un⟩
    have hTf2 : ∀ t ∈ T, fl t.i = true ∧ LP.getD t.i true = false ∧ ∃ o, ops[t.i]? = some o ∧ o.dst = some t.d := fun t ht =>
      let ⟨o, _, _, h1, _, h2, _⟩ := (hT t ht).op
      ⟨(hT t ht).isf, (hT t ht).un, o, h1, h2⟩
    have fuel_pos : ∀ {j}, j ∈ Region.ready .any ops (setT T LP) → ∃ n, fuel = n + 1 := fun {j} hj => by
      have := cnt_pos (mem_ready.1 hj).1
      exact ⟨fuel - 1, by omega⟩
    have cnt_next : ∀ {j n}, j ∈ Region.ready .any ops (setT T LP) → fuel = n + 1 → cnt ((setT T LP).setIfInBounds j true) ≤ n := fun {j n} hj hn => by
      have := cnt_set (mem_ready.1 hj).1
      omega
    -- a floating one is made now
    have float : ∀ m ∈ Region.ready .any ops (setT T LP), fl m = true → ∀ n, fuel = n + 1 →
        wpOp P ops Q m (fun a' w' => Stands R0 s0 w0 tf ((setT T LP).setIfInBounds m true) w' ∧ wpAnyU P ops Q (Stands R0 s0 w0 tf) n ((setT T LP).setIfInBounds m true) a' w') (putT T aP) w := by
      intro m hm hmf n hn
      obtain ⟨o, ty, d, inf, z, g1, g2, g3, g4, g5, g6, g7, g8⟩ := hfl m hmf
      obtain ⟨hun1, hun2⟩ := setT_un (mem_ready.1 hm).1
      let t : Tk := ⟨m, d, w.heap.size, ty, z.cells⟩
      let w1 : World := { w with heap := w.heap.push (.cells z.cells ty) }
      have hbl : Below w.heap.size w w1 := ⟨rfl, rfl, rfl, by show w.heap.size ≤ (w.heap.push _).size; simp, fun k hk => by show (w.heap.push _)[k]? = _; rw [Array.getElem?_push, if_neg (by omega)]⟩
      have hrun : (execOp (putT T aP).eval o).run P w = .ok (.value t.p) w1 := by
        obtain ⟨dst, op, type, pos, after, guard⟩ := o
        simp only at g2
        subst g2
        simp [execOp, Instr.alloc, zeroValue, typeInfo, g5, g6, newVar, newRow, t, Tk.p, w1]
      refine wpOp_load g1 g4 hrun ?_
      have hS1 : Stands R0 s0 w0 tf ((setT T LP).setIfInBounds m true) w1 := by
        refine Stands.set _ _ _ ?_
        intro k b T' B hk hn hr
        refine (hbl.block b ?_).trans (hS k b T' B hk hn hr)
        exact Nat.lt_of_lt_of_le (hI0.rel.dom hr).2 hG.below.size
      refine ⟨hS1, ?_⟩
      rw [g3]
      have hTnew : TkOk P ops fl w0 R w1 LP t := ⟨hmf, hun1, ⟨o, inf, z, g1, g2, g3, g5, g6, rfl⟩, by show (w.heap.push _)[w.heap.size]? = _; simp [t], hG.below.size, fun k T' r => by have := (hI.rel.dom r).2; exact absurd this (Nat.lt_irrefl _)⟩
      refine ih l (T := t :: T) (LP := LP) (R := R) (aP := aP) (by omega) hp h (hD.set hm) (cnt_next hm hn) ?_ ?_ ?_ hf hd hL hS1 htl
      · intro t' ht'
        rcases List.mem_cons.1 ht' with rfl | ht'
        · exact hTnew
        · exact (hT t' ht').turn (hT t' ht').un (hbl.block _ (hT t' ht').lt) (hT t' ht').no
      · refine List.pairwise_cons.2 ⟨fun u hu => ⟨?_, ?_, ?_⟩, hTp⟩
        · have := (hT u hu).lt
          show w.heap.size ≠ u.b
          omega
        · exact Ne.symm (hun2 u hu)
        · obtain ⟨ou, _, _, q1, _, q3, _⟩ := (hT u hu).op
          rcases g8 u.i ou q1 (hun2 u hu) with ⟨e, he, hb, hon⟩ | hap
          · obtain ⟨o2, ty2, d2, inf2, z2, k1, k2, k3, k4, k5, k6, k7, k8⟩ := hfl u.i (hT u hu).isf
            rw [q1] at k1
            injection k1 with k1
            subst k1
            rw [k7 e he] at hb
            cases hb
          · have := (Oper.apart_spec hap).2.1 d g3
            intro e
            exact this (by rw [q3]; exact congrArg some e.symm)
      · exact ⟨hG.ext, hG.old, hG.num, hG.keep, ⟨⟨hI.rel.fn, fun r => ⟨(hI.rel.dom r).1, Nat.lt_of_lt_of_le (hI.rel.dom r).2 hbl.size⟩, hI.rel.inj, fun hk => let ⟨b, T', r, q⟩ := hI.rel.blk hk; ⟨b, T', r, q.of_block (hbl.block b (hI.rel.dom r).2)⟩⟩, Nat.le_trans hI.hb hbl.size, hI.hf, hI.own, fun hg => hI.glo_below hg (hbl.mono hI.hb), hI.kgl⟩, hG.below.trans (hbl.mono hI.hb), hG.fresh, hG.more, fun hk r hn => let ⟨c1, c2⟩ := hG.wrote hk r hn; ⟨(hbl.block _ (Nat.lt_of_lt_of_le (hI0.rel.dom r).2 hG.below.size)).trans c1, c2⟩, fun b hb hn => (hbl.block b (Nat.lt_of_lt_of_le hb hG.below.size)).trans (hG.other b hb hn)⟩
    have setT_t : ∀ {L : Array Bool} {i : Nat}, (L.setIfInBounds i true).getD i true = true := fun {L i} => by
      rcases Nat.lt_or_ge i L.size with h' | h'
      · simp [Array.getD, h']
      · simp [Array.getD, Nat.not_lt.2 h']
    have keep_t : ∀ {L : Array Bool} {i j : Nat}, L.getD j true = true → (L.setIfInBounds i true).getD j true = true := fun {L i j} h => by
      by_cases e : i = j
      · subst e; exact setT_t
      · rw [getD_set_ne true e]; exact h
    have set_tf : ∀ {L : Array Bool} {i : Nat}, L.getD i true = false → (L.setIfInBounds i true).getD i false = true := fun {L i} h => by
      rcases Nat.lt_or_ge i L.size with h' | h'
      · simp [Array.getD, h']
      · simp [Array.getElem?_eq_none h'] at h
    -- on to the next step
    have cont : ∀ {i n : Nat} {r : List Stp} {o : Oper} {R1 : Rho} {f1 : Fr} {s1 : AS} {x : Value} {w1 : World} {kl1 tl1 : List (Nat × Nat)}, fuel = n + 1 → n + r.length ≤ N → PlanOk ops fl r (LP.setIfInBounds i true) → evalPlan P call s0 floor ops r f1 s1 kl1 tl1 = some (f', s', tf) → i ∈ Region.ready .any ops (setT T LP) → (∀ t ∈ T, t.i ≠ i) → (∀ t ∈ T, TkOk P ops fl w0 R1 w1 LP t) → Went R0 R1 s0 s1 w0 w1 floor base →
        FRel R1 f1 (aP.put o.dst x).tmps → Live s0 tf (LP.setIfInBounds i true) s1 → Stands R0 s0 w0 tf ((setT T LP).setIfInBounds i true) w1 → (∀ p ∈ tl1, (LP.setIfInBounds i true).getD p.1 true = true) →
        wpAnyU P ops Q (Stands R0 s0 w0 tf) n ((setT T LP).setIfInBounds i true) (putT T (aP.put o.dst x)) w1 := by
      intro i n r o R1 f1 s1 x w1 kl1 tl1 hn hN' hp' h' hi hne hT' hG' hf' hL' hS' htl'
      have hD' := hD.set hi
      have hc' := cnt_next hi hn
      rw [← setT_set] at hD' hc' hS' ⊢
      refine ih r hN' hp' h' hD' hc' (fun t ht => ?_) hTp hG' hf' (by rw [put_defers]; exact hd) hL' hS' htl'
      exact (hT' t ht).turn (by rw [getD_set_ne true (Ne.symm (hne t ht))]; exact (hT' t ht).un) rfl (hT' t ht).no
    cases l with
    | nil =>
      have hTn : T = [] := by
        cases T with
        | nil => rfl
        | cons t T =>
          exfalso
          have h1 := hT t List.mem_cons_self
          obtain ⟨o, ty, d, inf, z, g1, g2, g3, g4, g5, g6, g7, g8⟩ := hfl t.i h1.isf
          have : t.i ∈ Region.ready .any ops LP := mem_ready.2 ⟨h1.un, o, g1, fun e he hb => by rw [g7 e he] at hb; cases hb⟩
          rw [show Region.ready .any ops LP = [] from hp] at this
          cases this
      subst hTn
      have h' : some (f, s, tl) = some (f', s', tf) := h
      injection h' with h'
      injection h' with h1 h'
      injection h' with h2 h3
      subst h1 h2
      exact wpAnyU_done hp (hK R aP w hG hf hd) _
    | cons t l =>
      rw [evalPlan_cons] at h
      split at h
      case h_2 => cases h
      rename_i f1 s1 kl1 tl1 h1
      have hlen : fuel + (l.length + 1) ≤ N + 1 := hN
      cases t with
      | early i =>
        obtain ⟨p0, p1, p2, p3, p4⟩ := hp
        have hne : ∀ t ∈ T, t.i ≠ i := fun t ht e => by rw [← e, (hT t ht).isf] at p0; cases p0
        have hr := ready_setT p1 hne
        obtain ⟨n, rfl⟩ := fuel_pos hr
        obtain ⟨_, b2, _⟩ := evalPlan_lists l p4 h
        simp only [planOne] at h1
        split at h1
        · rename_i o ho
          have hap := apartT hfl ho p1 hTf2 hne
          have go : ∀ {v : AV} {x : Value}, VRel R v x → YieldsIf P ops (Si ops (Stands R0 s0 w0 tf) i) o x (putT T aP) → (putA f o.dst v, s, kl, tl) = (f1, s1, kl1, tl1) → wpAnyU P ops Q (Stands R0 s0 w0 tf) (n + 1) (setT T LP) (putT T aP) w := by
            intro v x hx hy he
            injection he with e1 he
            injection he with e2 he
            injection he with e3 e4
            subst e1 e2 e3 e4
            have hin2 : ∀ p ∈ tf, p.1 ≠ i := fun p hp e => by
              rcases b2 p hp with h2 | h2
              · have := htl p h2
                rw [e, (mem_ready.1 p1).1] at this
                cases this
              · rw [e, setT_t] at h2; cases h2
            refine wpAnyU_take hns (fun L i w h => Stands.set L i w h) hQ ho (free_setT p2) (Stands.unset hin2) hr hD hy hS ?_
            rw [← putT_put T aP o.dst x (fun t ht => (hap t ht).2)]
            exact cont rfl (by omega) p4 h hr hne hT hG (putA_ok hf o.dst hx) (fun k B hk hn => hL k B hk (fun j hj => getD_set_f (hn j hj))) (Stands.set _ _ _ hS) (fun p hp => keep_t (htl p hp))
          split at h1
          · rename_i hw
            have hw := wantA_ok hf hw
            split at h1
            · rename_i v hv
              obtain ⟨x, hx, hrun⟩ := evalWl_ok hKn hv hf
              exact go hx (.inl ⟨by rw [wanted_putT T aP hap]; exact hw, fun w' _ => by rw [execOp_putT (noSel_of hns ho) T aP hap]; exact hrun w'⟩) (Option.some.inj h1)
            · cases h1
          · rename_i hw
            have hw := wantA_ok hf hw
            exact go (VRel.lit_ undef) (.inr ⟨by rw [wanted_putT T aP hap]; exact hw, rfl⟩) (Option.some.inj h1)
          · cases h1
        · cases h1
      | held i =>
        obtain ⟨p0, p1, p2, p3, p4⟩ := hp
        have hne : ∀ t ∈ T, t.i ≠ i := fun t ht e => by rw [← e, (hT t ht).isf] at p0; cases p0
        have hr := ready_setT p1 hne
        obtain ⟨n, rfl⟩ := fuel_pos hr
        obtain ⟨_, b2, b3⟩ := evalPlan_lists l p4 h
        simp only [planOne] at h1
        split at h1
        · rename_i o ho
          have hap := apartT hfl ho p1 hTf2 hne
          have go : ∀ {v : AV} {x : Value}, VRel R v x → YieldsIf P ops (Si ops (Stands R0 s0 w0 tf) i) o x (putT T aP) → putA f o.dst v = f1 → s = s1 → tl = tl1 → wpAnyU P ops Q (Stands R0 s0 w0 tf) (n + 1) (setT T LP) (putT T aP) w := by
            intro v x hx hy e1 e2 e4
            subst e1 e2 e4
            have hin2 : ∀ p ∈ tf, p.1 ≠ i := fun p hp e => by
              rcases b2 p hp with h2 | h2
              · have := htl p h2
                rw [e, (mem_ready.1 p1).1] at this
                cases this
              · rw [e, setT_t] at h2; cases h2
            refine wpAnyU_take hns (fun L i w h => Stands.set L i w h) hQ ho (free_setT p2) (Stands.unset hin2) hr hD hy hS ?_
            rw [← putT_put T aP o.dst x (fun t ht => (hap t ht).2)]
            exact cont rfl (by omega) p4 h hr hne hT hG (putA_ok hf o.dst hx) (fun k B hk hn => hL k B hk (fun j hj => getD_set_f (hn j hj))) (Stands.set _ _ _ hS) (fun p hp => keep_t (htl p hp))
          split at h1
          · rename_i hw
            have hw := wantA_ok hf hw
            split at h1
            · rename_i v k hv
              split at h1
              · rename_i B0 hB0 htk
                have h1 := Option.some.inj h1
                injection h1 with e1 h1
                injection h1 with e2 h1
                injection h1 with e3 e4
                obtain ⟨x, b, T', B, hx, hB, hrb, hrun⟩ := load_mem (P := P) hI hf hv
                have hk0 : k < s0.n := by
                  obtain ⟨b', T', r', _⟩ := hI0.rel.blk hB0
                  exact (hI0.rel.dom r').1
                have hr0' := hG.old hrb hk0
                have good : ∀ {L : Array Bool} {w' : World}, Down ops L → L.getD i true = false → Stands R0 s0 w0 tf L w' → w'.heap[b]? = w0.heap[b]? := by
                  intro L w' hDL hiL hSL
                  refine hSL k b T' B0 hB0 (fun j hj => ?_) hr0'
                  rcases b3 (i, k) (by rw [← e3]; exact List.mem_cons_self) (j, k) hj rfl with h2 | h2
                  · rw [← e4] at h2
                    exact absurd rfl (hasK_false htk _ h2)
                  · cases hc : L.getD j false with
                    | false => rfl
                    | true =>
                      have := hDL.of_listed h2 hc
                      rw [getD_tf hiL] at this
                      cases this
                refine go hx (.inl ⟨by rw [wanted_putT T aP hap]; exact hw, fun w' hw' => ?_⟩) e1 e2 e4
                rw [execOp_putT (noSel_of hns ho) T aP hap]
                obtain ⟨L, hDL, hiL, hSL⟩ := hw'
                exact hrun w' ((good hDL hiL hSL).trans (good hD (mem_ready.1 hr).1 hS).symm)
              · cases h1
            · cases h1
          · rename_i hw
            have hw := wantA_ok hf hw
            have h1 := Option.some.inj h1
            injection h1 with e1 h1
            injection h1 with e2 h1
            injection h1 with e3 e4
            exact go (VRel.lit_ undef) (.inr ⟨by rw [wanted_putT T aP hap]; exact hw, rfl⟩) e1 e2 e4
          · cases h1
        · cases h1
      | solo i =>
        obtain ⟨p0, p1, p2, p3, p4⟩ := hp
        have hne : ∀ t ∈ T, t.i ≠ i := fun t ht e => by rw [← e, (hT t ht).isf] at p0; cases p0
        have hr := ready_setT p1 hne
        obtain ⟨n, rfl⟩ := fuel_pos hr
        obtain ⟨b1, b2, b3⟩ := evalPlan_lists l p4 h
        have hiu := (mem_ready.1 p1).1
        refine ⟨fun h0 => (by rw [h0] at hr; cases hr), fun m hm => ?_⟩
        cases hmf : fl m with
        | true => exact float m hm hmf n rfl
        | false =>
          have hmi : m = i := by
            rcases p2 m (noStray hD hiu hne p3 hTf hm) with e | e
            · exact e
            · rw [hmf] at e; cases e
          subst hmi
          simp only [planOne] at h1
          split at h1
          · rename_i o ho
            have hap := apartT hfl ho p1 hTf2 hne
            refine wpOp_putT hQ ho (noSel_of hns ho) T hap ?_
            unfold wpOp
            simp only [ho]
            split at h1
            · rename_i hw
              have hw := wantA_ok hf hw
              rw [if_pos hw]
              left
              split at h1
              · rename_i v s2 hv
                split at h1
                · have h1 := Option.some.inj h1
                  injection h1 with e1 h1
                  injection h1 with e2 h1
                  injection h1 with e3 e4
                  rw [appL_eq, mapL_eq] at e4
                  subst e1 e2
                  have htg : ∀ k, k ∈ s2.wr → (m, k) ∈ tf := fun k hk => b1 _ (by rw [← e4]; exact List.mem_append_left _ (List.mem_map.2 ⟨k, hk, rfl⟩))
                  have htl1 : ∀ p ∈ tl1, (LP.setIfInBounds m true).getD p.1 true = true := fun p hp => by
                    rw [← e4] at hp
                    rcases List.mem_append.1 hp with hp | hp
                    · obtain ⟨k', _, rfl⟩ := List.mem_map.1 hp
                      exact setT_t
                    · exact keep_t (htl p hp)
                  refine evalOp_ok hKn hcall (hI.wr_ []) hf hv fun R' x w' hx hg0 => ?_
                  have hg := hg0.merge
                  have hS' : Stands R0 s0 w0 tf ((setT T LP).setIfInBounds m true) w' := by
                    intro k b T' B hk hn hrb
                    have hk2 := hL k B hk (fun j hj => by
                      cases hc : LP.getD j false with
                      | false => rfl
                      | true =>
                        have := getD_set_f (hn j hj)
                        rw [setT_up hc] at this; cases this)
                    rw [hk] at hk2
                    have := (hg0.wrote hk2 (hG.ext _ _ _ hrb) (fun e => by
                      have h9 := hn m (htg k e)
                      rw [set_tf (mem_ready.1 hr).1] at h9; cases h9)).1
                    exact this.trans (hS k b T' B hk (fun j hj => getD_set_f (hn j hj)) hrb)
                  refine ⟨hS', ?_⟩
                  refine cont rfl (by omega) p4 h hr hne (fun t ht => ?_) (hG.trans hg) (putA_ok (hf.ext hg.ext) o.dst hx) (fun k B hk hn => ?_) hS' htl1
                  · have hno : ∀ k T', ¬ R' k t.b T' := fun k T' r => by
                      rcases hg.fresh r with ⟨k0, T0, r0⟩ | hb
                      · exact (hT t ht).no _ _ r0
                      · have := (hT t ht).lt; omega
                    exact (hT t ht).turn (hT t ht).un (hg.other t.b (hT t ht).lt hno) hno
                  · have hk2 := hL k B hk (fun j hj => getD_set_f (hn j hj))
                    have hk3 := hk2
                    rw [hk] at hk3
                    obtain ⟨b, T', r, _⟩ := hI.rel.blk hk3
                    exact ((hg0.wrote hk3 r (fun e => by
                      have h9 := hn m (htg k e)
                      rw [set_tf hiu] at h9; cases h9)).2).trans hk2
                · cases h1
              · cases h1
            · rename_i hw
              have hw := wantA_ok hf hw
              rw [if_neg (by simp [hw])]
              have h1 := Option.some.inj h1
              injection h1 with e1 h1
              injection h1 with e2 h1
              injection h1 with e3 e4
              subst e1 e2 e4
              exact ⟨Stands.set _ _ _ hS, cont rfl (by omega) p4 h hr hne hT hG (putA_ok hf o.dst (VRel.lit_ _)) (fun k B hk hn => hL k B hk (fun j hj => getD_set_f (hn j hj))) (Stands.set _ _ _ hS) (fun p hp => keep_t (htl p hp))⟩
            · cases h1
          · cases h1
      | flo i =>
        obtain ⟨p0, p1, p2, p3, p4⟩ := hp
        by_cases hin : ∃ t ∈ T, t.i = i
        · obtain ⟨t, ht, rfl⟩ := hin
          obtain ⟨T1, T2, rfl⟩ := List.append_of_mem ht
          have hpw := List.pairwise_append.1 hTp
          have hpw2 := List.pairwise_cons.1 hpw.2.1
          have hTt := hT t ht
          obtain ⟨o, inf, z, q1, q2, q3, q4, q5, q6⟩ := hTt.op
          have hfar : ∀ u ∈ T1 ++ T2, Far t u := fun u hu => by
            rcases List.mem_append.1 hu with hu | hu
            · exact (hpw.2.2 u hu t List.mem_cons_self).symm
            · exact hpw2.1 u hu
          have hsub : ∀ u ∈ T1 ++ T2, u ∈ T1 ++ t :: T2 := fun u hu => by
            rcases List.mem_append.1 hu with hu | hu
            · exact List.mem_append_left _ hu
            · exact List.mem_append_right _ (List.mem_cons_of_mem _ hu)
          simp only [planOne, q1, q2, q4, q5] at h1
          have h1 := Option.some.inj h1
          injection h1 with e1 h1
          injection h1 with e2 h1
          injection h1 with e3 e4
          subst e1 e2 e3 e4
          rw [setT_out] at hD hc hS ⊢
          rw [putT_out T1 aP (fun u hu => (hpw2.1 u hu).2.2)]
          have hnb := hTt.no
          have hC : t.C.toList.take (mapL AV.lit z.cells.toList).length = z.cells.toList := by rw [q6, mapL_eq, List.length_map, List.take_length]
          have hA := hI.adopt (B := mapL AV.lit z.cells.toList) hTt.blk (Nat.le_trans hI0.hb hTt.new) hnb (by rw [hC, mapL_eq]; exact VRels.lits_ _) (by rw [mapL_eq, q6]; simp) (fz0 _)
          refine ih l (LP := LP.setIfInBounds t.i true) (T := T1 ++ T2) (R := fun k b T' => R k b T' ∨ (k = s.n ∧ b = t.b ∧ T' = t.C.size)) (aP := aP.put (some t.d) t.p) (by omega) p4 h hD hc (fun u hu => ?_) ?_ ?_ ?_ (by rw [put_defers]; exact hd) ?_ hS (fun p hp => keep_t (htl p hp))
          · have hu' := hT u (hsub u hu)
            refine hu'.turn (by rw [getD_set_ne true (hfar u hu).2.1]; exact hu'.un) rfl (fun k T' r => ?_)
            rcases r with r | ⟨_, e, _⟩
            · exact hu'.no _ _ r
            · exact (hfar u hu).1 e.symm
          · exact List.pairwise_append.2 ⟨hpw.1, hpw2.2, fun x hx y hy => hpw.2.2 x hx y (List.mem_cons_of_mem _ hy)⟩
          · have hs0 := hG.num
            refine ⟨fun _ _ _ r => .inl (hG.ext _ _ _ r), fun r hk => ?_, by show s0.n ≤ s.n + 1; omega, fun k hk => ?_, hA, hG.below, fun r => ?_, hG.more, fun {k b T' B} hk r hn => ?_, fun b hb hn => hG.other b hb (fun k T' r => hn k T' (.inl r))⟩
            · rcases r with r | ⟨e, _, _⟩
              · exact hG.old r hk
              · omega
            · have := hI0.hf
              show look k ((s.n, _) :: s.h) = _
              rw [look_cons, if_neg (by show ¬ s.n = k; omega)]
              exact hG.keep k hk
            · rcases r with r | ⟨_, e, _⟩
              · exact hG.fresh r
              · exact .inr (by rw [e]; exact hTt.new)
            · obtain ⟨c1, c2⟩ := hG.wrote hk r hn
              have := (hI0.rel.dom r).1
              refine ⟨c1, ?_⟩
              show look k ((s.n, _) :: s.h) = _
              rw [look_cons, if_neg (by show ¬ s.n = k; omega)]
              exact c2
          · rw [q3]
            refine putA_ok (hf.ext (fun _ _ _ r => .inl r)) (some t.d) ?_
            unfold VRel
            exact ⟨t.b, t.C.size, .inr ⟨rfl, rfl, rfl⟩, rfl⟩
          · intro k B hk hn
            have hk1 : k < s0.n := by
              obtain ⟨b', T', r', _⟩ := hI0.rel.blk hk
              exact (hI0.rel.dom r').1
            have := hG.num
            show look k ((s.n, _) :: s.h) = _
            rw [look_cons, if_neg (by show ¬ s.n = k; omega)]
            exact hL k B hk (fun j hj => getD_set_f (hn j hj))
        · have hne : ∀ t ∈ T, t.i ≠ i := fun t ht e => hin ⟨t, ht, e⟩
          have hr := ready_setT p1 hne
          obtain ⟨n, rfl⟩ := fuel_pos hr
          refine ⟨fun h0 => (by rw [h0] at hr; cases hr), fun m hm => ?_⟩
          cases hmf : fl m with
          | true => exact float m hm hmf n rfl
          | false =>
            have := p2 m (noStray hD (mem_ready.1 p1).1 hne p3 hTf hm)
            rw [hmf] at this; cases this
      | pair i j =>
        obtain ⟨p0, p1, p2, p3, ⟨oa, ob, ha, hb, ga, gb, hap, hij⟩, p4⟩ := hp
        have hTn : T = [] := by
          cases T with
          | nil => rfl
          | cons t T => have := (hT t List.mem_cons_self).isf; rw [p0] at this; cases this
        subst hTn
        have hri : i ∈ Region.ready .any ops LP := by rw [p1]; simp
        have hrj : j ∈ Region.ready .any ops LP := by rw [p1]; simp
        have hrj2 : j ∈ Region.ready .any ops (LP.setIfInBounds i true) := by rw [p2]; simp
        have hri2 : i ∈ Region.ready .any ops (LP.setIfInBounds j true) := by rw [p3]; simp
        have c1 := cnt_set (mem_ready.1 hri).1
        have c2 := cnt_set (mem_ready.1 hrj2).1
        have hc' : cnt LP ≤ fuel := hc
        obtain ⟨n, rfl⟩ : ∃ n, fuel = n + 1 + 1 := ⟨fuel - 2, by omega⟩
        simp only [planOne, ha, hb] at h1
        split at h1
        · rename_i u k1 v k2 hu hv
          have h1 := Option.some.inj h1
          injection h1 with e1 h1
          injection h1 with e2 h1
          injection h1 with e3 e4
          subst e1 e2 e3 e4
          obtain ⟨x, _, _, _, hx, _, _, hrx⟩ := load_mem (P := P) hI hf hu
          obtain ⟨y, _, _, _, hy, _, _, hry⟩ := load_mem (P := P) hI hf hv
          obtain ⟨q1, q2, q3⟩ := Oper.apart_spec hap
          have hSi : Stands R0 s0 w0 tf (LP.setIfInBounds i true) w := Stands.set _ _ _ hS
          have hSj : Stands R0 s0 w0 tf (LP.setIfInBounds j true) w := Stands.set _ _ _ hS
          have hSij : Stands R0 s0 w0 tf ((LP.setIfInBounds i true).setIfInBounds j true) w := Stands.set _ _ _ hSi
          have rest : wpAnyU P ops Q (Stands R0 s0 w0 tf) n ((LP.setIfInBounds i true).setIfInBounds j true) ((aP.put oa.dst x).put ob.dst y) w :=
            ih l (T := []) (LP := (LP.setIfInBounds i true).setIfInBounds j true) (aP := (aP.put oa.dst x).put ob.dst y) (by omega) p4 h (Down.set (Down.set hD hri) hrj2) (by show cnt ((LP.setIfInBounds i true).setIfInBounds j true) ≤ n; omega) (fun t ht => by cases ht) .nil hG (putA_ok (putA_ok hf oa.dst hx) ob.dst hy) (by rw [put_defers, put_defers]; exact hd)
              (fun k B hk hn => hL k B hk (fun j' hj' => getD_set_f (getD_set_f (hn j' hj')))) hSij (fun p hp => keep_t (keep_t (htl p hp)))
          refine ⟨fun h0 => (by rw [show Region.ready .any ops LP = [] from h0] at hri; cases hri), fun m hm => ?_⟩
          have hm : m = i ∨ m = j := by rw [show Region.ready .any ops (setT [] LP) = [i, j] from p1] at hm; simpa using hm
          rcases hm with rfl | rfl
          · refine wpOp_load ha ga (hrx w rfl) ⟨hSi, ?_⟩
            refine ⟨fun h0 => (by rw [show Region.ready .any ops (LP.setIfInBounds m true) = [] from h0] at hrj2; cases hrj2), fun m' hm' => ?_⟩
            have hm' : m' = j := by rw [show Region.ready .any ops ((setT [] LP).setIfInBounds m true) = [j] from p2] at hm'; simpa using hm'
            subst hm'
            refine wpOp_load hb gb (w' := w) ?_ ⟨hSij, rest⟩
            show (execOp (aP.put oa.dst x).eval ob).run P w = _
            rw [execOp_put ob (noSel_of hns hb) aP oa.dst x q1]
            exact hry w rfl
          · refine wpOp_load hb gb (hry w rfl) ⟨hSj, ?_⟩
            refine ⟨fun h0 => (by rw [show Region.ready .any ops (LP.setIfInBounds m true) = [] from h0] at hri2; cases hri2), fun m' hm' => ?_⟩
            have hm' : m' = i := by rw [show Region.ready .any ops ((setT [] LP).setIfInBounds m true) = [i] from p3] at hm'; simpa using hm'
            subst hm'
            have hcomm : (setT [] LP).setIfInBounds m true = LP.setIfInBounds m true := rfl
            refine wpOp_load (x := x) ha ga (w' := w) ?_ ?_
            · show (execOp (aP.put ob.dst y).eval oa).run P w = _
              rw [execOp_put oa (noSel_of hns ha) aP ob.dst y q3]
              exact hrx w rfl
            · show Stands R0 s0 w0 tf ((LP.setIfInBounds m true).setIfInBounds m' true) w ∧ wpAnyU P ops Q (Stands R0 s0 w0 tf) n ((LP.setIfInBounds m true).setIfInBounds m' true) ((aP.put ob.dst y).put oa.dst x) w
              rw [Array.setIfInBounds_comm _ _ (Ne.symm hij), ← Act.put_comm aP x y q2]
              exact ⟨hSij, rest⟩
        · cases h1
end
end Go.Proofs.YtajcapliokblfaaDoor
set_option linter.unusedVariables false
set_option linter.unusedSectionVars false
set_option linter.unusedSimpArgs false
namespace Go.Proofs.YtajcapliokblfaaDoor
open Go Go.RowKit
variable [Env] [Know]

theorem readyL_eq (m : Nat) (l : List Rec) : readyL m l = l.filter (readyR m) := by
  induction l with
  | nil => rfl
  | cons r l ih =>
    show (Bool.rec (readyL m l) (r :: readyL m l) (readyR m r) : List Rec) = _
    rw [List.filter_cons, ih]
    cases readyR m r <;> rfl
theorem without_eq (i : Nat) (l : List Rec) : without i l = l.filter (fun r => !Nat.beq r.i i) := by
  induction l with
  | nil => rfl
  | cons r l ih =>
    show (Bool.rec (r :: without i l) (without i l) (Nat.beq r.i i) : List Rec) = _
    rw [List.filter_cons, ih]
    cases Nat.beq r.i i <;> rfl
theorem firstR_some {t : Oper → Bool} {m : Nat} {all : List Rec} {r : Rec} : ∀ {l : List Rec}, firstR t m all l = some r → r ∈ l ∧ t r.o = true ∧ readyR m r = true ∧ freeR all r = true
  | q :: l, h => by
    have h' : (Bool.rec (firstR t m all l) (some q) (t q.o && (readyR m q && freeR all q)) : Option Rec) = some r := h
    cases hb : (t q.o && (readyR m q && freeR all q)) with
    | true =>
      rw [hb] at h'
      injection h' with h'
      subst h'
      simp only [Bool.and_eq_true] at hb
      exact ⟨List.mem_cons_self, hb.1, hb.2.1, hb.2.2⟩
    | false =>
      rw [hb] at h'
      obtain ⟨h1, h2⟩ := firstR_some h'
      exact ⟨List.mem_cons_of_mem _ h1, h2⟩
theorem readyR_iff (m : Nat) (r : Rec) : readyR m r = true ↔ ∀ j, r.deps.testBit j = true → m.testBit j = true := by
  unfold readyR
  constructor
  · intro h j hj
    have h := Nat.eq_of_beq_eq_true h
    rw [← h, Nat.testBit_and] at hj
    simp only [Bool.and_eq_true] at hj
    exact hj.2
  · intro h
    have : r.deps &&& m = r.deps := by
      apply Nat.eq_of_testBit_eq
      intro j
      rw [Nat.testBit_and]
      cases hj : r.deps.testBit j with
      | false => rfl
      | true => rw [h j hj]; rfl
    rw [this]
    exact Nat.beq_refl _
theorem readyR_mono {m i : Nat} {r : Rec} (h : readyR m r = true) : readyR (m ||| 2 ^ i) r = true := by
  rw [readyR_iff] at h ⊢
  intro j hj
  rw [testBit_or_pow, h j hj]; rfl
/-- m tells what is listed, l what is not. -/
structure Corr (ops : Array Oper) (m : Nat) (l : List Rec) (listed : Array Bool) : Prop where
  size : listed.size = ops.size
  bit : ∀ i, i < ops.size → listed.getD i true = m.testBit i
  top : ∀ i, m.testBit i = true → i < ops.size
  rest : l = (allR ops).filter (fun r => !m.testBit r.i)
section
variable {ops : Array Oper} {m : Nat} {l : List Rec} {listed : Array Bool}
theorem Corr.getF (h : Corr ops m l listed) (i : Nat) : listed.getD i false = m.testBit i := by
  by_cases hi : i < ops.size
  · have h1 := h.bit i hi
    have h2 : i < listed.size := by rw [h.size]; exact hi
    simp [Array.getD, h2] at h1 ⊢
    exact h1
  · have h2 : ¬ i < listed.size := by rw [h.size]; exact hi
    have h3 : m.testBit i = false := by
      cases hb : m.testBit i with
      | false => rfl
      | true => exact absurd (h.top i hb) hi
    rw [h3]
    simp [Array.getD, h2]
theorem Corr.mem (h : Corr ops m l listed) {r : Rec} (hr : r ∈ l) : r ∈ allR ops ∧ m.testBit r.i = false := by
  rw [h.rest] at hr
  have := List.mem_filter.1 hr
  exact ⟨this.1, by simpa using this.2⟩
theorem Corr.ready_iff (h : Corr ops m l listed) {r : Rec} (hr : r ∈ allR ops) : (!listed.getD r.i true && ((ops[r.i]?).map (·.after.all fun e => !Region.binds .any e || listed.getD e.on false)).getD false) = (!m.testBit r.i && readyR m r) := by
  obtain ⟨h1, h2, h3⟩ := allR_mem hr
  have hi : r.i < ops.size := (Array.getElem?_eq_some_iff.1 h1).1
  rw [h.bit _ hi, h1, Option.map_some, Option.getD_some]
  congr 1
  rw [Bool.eq_iff_iff, readyR_iff, h2]
  simp only [Array.all_eq_true_iff_forall_mem, Bool.or_eq_true, Bool.not_eq_true', depM_bit]
  constructor
  · rintro ha j ⟨e, he, hb, rfl⟩
    rcases ha e he with h | h'
    · rw [hb] at h; cases h
    · rw [h.getF] at h'; exact h'
  · intro ha e he
    cases hb : Region.binds .any e with
    | false => exact .inl rfl
    | true => exact .inr (by rw [h.getF]; exact ha _ ⟨e, he, hb, rfl⟩)
theorem Corr.ready (h : Corr ops m l listed) : Region.ready .any ops listed = (l.filter (readyR m)).map (·.i) := by
  unfold Region.ready
  rw [← allR_map, List.filter_map, h.rest, List.filter_filter]
  congr 1
  apply List.filter_congr
  intro r hr
  have := h.ready_iff hr
  simp only [Function.comp]
  rw [this, Bool.and_comm]
theorem Corr.set (h : Corr ops m l listed) {r : Rec} (hr : r ∈ l) : Corr ops (m ||| 2 ^ r.i) (without r.i l) (listed.setIfInBounds r.i true) := by
  obtain ⟨h1, h2⟩ := h.mem hr
  have hi : r.i < ops.size := (Array.getElem?_eq_some_iff.1 (allR_mem h1).1).1
  refine ⟨by simp [h.size], fun i hi' => ?_, fun i hb => ?_, ?_⟩
  · rw [testBit_or_pow]
    by_cases he : r.i = i
    · subst he
      have : r.i < listed.size := by rw [h.size]; exact hi
      simp [Array.getD, this]
    · rw [← h.bit i hi']
      simp [Array.getD_eq_getD_getElem?, Array.getElem?_setIfInBounds_ne he, he]
  · rw [testBit_or_pow] at hb
    simp only [Bool.or_eq_true, decide_eq_true_eq] at hb
    rcases hb with hb | hb
    · exact h.top i hb
    · omega
  · rw [without_eq, h.rest, List.filter_filter]
    apply List.filter_congr
    intro q hq
    rw [testBit_or_pow, Bool.not_or, Bool.and_comm]
    congr 1
    cases hb : Nat.beq q.i r.i with
    | true => have := Nat.eq_of_beq_eq_true hb; simp [this]
    | false =>
      have := Nat.ne_of_beq_eq_false hb
      simp
      exact fun e => this e.symm
theorem apartR_ok {x y : Rec} (hx : x.looks = lookM ops x.o) (hy : y.looks = lookM ops y.o) (h : apartR x y = true) : x.o.apart ops y.o = true := by
  unfold apartR at h
  simp only [Bool.and_eq_true, Bool.not_eq_true'] at h
  obtain ⟨h1, h2, h3⟩ := h
  have nb : ∀ {d : Option Tmp} {o : Oper} {mm : Nat}, mm = lookM ops o → hitM d mm = false → ∀ t, d = some t → (o.looksAt ops).contains t = false := by
    intro d o mm e hh t ht
    subst e ht
    simp only [hitM] at hh
    cases hc : (o.looksAt ops).contains t with
    | false => rfl
    | true =>
      rw [(lookM_bit ops o t).2 (by simpa using hc)] at hh
      cases hh
  unfold Oper.apart
  have e1 : ∀ t, x.o.dst = some t → ((y.o.looksAt ops).contains t = false ∧ y.o.dst ≠ some t) := by
    intro t ht
    refine ⟨nb hy h1 t ht, fun e => ?_⟩
    rw [ht, e] at h2
    simp only [sameD] at h2
    exact absurd rfl (Nat.ne_of_beq_eq_false h2)
  have e2 := nb hx h3
  cases hxd : x.o.dst with
  | none =>
    cases hyd : y.o.dst with
    | none => rfl
    | some t =>
      have h5 := e2 t hyd
      show (true && !(x.o.looksAt ops).contains t) = true
      rw [h5]; rfl
  | some t =>
    obtain ⟨a1, a2⟩ := e1 t hxd
    cases hyd : y.o.dst with
    | none =>
      show ((!(y.o.looksAt ops).contains t && (none != some t)) && true) = true
      rw [a1]; rfl
    | some u =>
      have hut : (some u != some t) = true := by
        have : ¬ u = t := fun e => a2 (by rw [hyd, e])
        simp [this]
      have h5 := e2 u hyd
      show ((!(y.o.looksAt ops).contains t && (some u != some t)) && !(x.o.looksAt ops).contains u) = true
      rw [a1, h5, hut]; rfl
theorem Corr.free (h : Corr ops m l listed) {r : Rec} (hr : r ∈ l) (hf : freeR l r = true) : Region.free .any ops listed r.i = true := by
  obtain ⟨h1, _⟩ := h.mem hr
  obtain ⟨g1, g2, g3⟩ := allR_mem h1
  unfold freeR at hf
  rw [allL_eq, List.all_eq_true] at hf
  unfold Region.free
  simp only [g1, List.all_eq_true, List.mem_range]
  intro j hj
  obtain ⟨q, hq, rfl⟩ := allR_ex hj
  obtain ⟨k1, k2, k3⟩ := allR_mem hq
  rw [k1]
  by_cases hij : q.i = r.i
  · simp [hij]
  rw [h.bit _ hj]
  cases hb : m.testBit q.i with
  | true => simp
  | false =>
    have hql : q ∈ l := by rw [h.rest]; exact List.mem_filter.2 ⟨hq, by simp [hb]⟩
    have := hf q hql
    simp only [Bool.or_eq_true] at this
    rcases this with h' | h' | h'
    · exact absurd (Nat.eq_of_beq_eq_true h') hij
    · rw [k2, depM_bit] at h'
      obtain ⟨e, he, hb2, hon⟩ := h'
      simp only [Bool.or_eq_true]
      right; left
      rw [Array.any_eq_true']
      exact ⟨e, he, by simp [hb2, hon]⟩
    · simp only [Bool.or_eq_true]
      right; right
      exact apartR_ok g3 k3 h'
theorem Corr.mem_ready (h : Corr ops m l listed) {r : Rec} (hr : r ∈ l) (hf : readyR m r = true) : r.i ∈ Region.ready .any ops listed := by
  rw [h.ready]
  exact List.mem_map.2 ⟨r, List.mem_filter.2 ⟨hr, hf⟩, rfl⟩
theorem plain_eq (fs : Nat) (l : List Rec) : plain fs l = l.filter (fun r => !fs.testBit r.i) := by
  induction l with
  | nil => rfl
  | cons r l ih =>
    show (Bool.rec (r :: plain fs l) (plain fs l) (fs.testBit r.i) : List Rec) = _
    rw [List.filter_cons, ih]
    cases fs.testBit r.i <;> rfl
theorem pendM_bit {fs i x : Nat} {q : Rec} : ∀ {l : List Rec}, q ∈ l → q.i = x → fs.testBit x = true → x ≠ i → (pendM fs i l).testBit x = true
  | r :: l, hq, hx, hf, hn => by
    show (Bool.rec (pendM fs i l) (pendM fs i l ||| 2 ^ r.i) (fs.testBit r.i && !Nat.beq r.i i) : Nat).testBit x = true
    rcases List.mem_cons.1 hq with rfl | hq
    · have hb : (fs.testBit q.i && !Nat.beq q.i i) = true := by
        rw [hx, hf]
        cases hc : Nat.beq x i with
        | false => rfl
        | true => exact absurd (Nat.eq_of_beq_eq_true hc) hn
      rw [hb]
      show (pendM fs i l ||| 2 ^ q.i).testBit x = true
      rw [testBit_or_pow, hx]; simp
    · have ih := pendM_bit (l := l) hq hx hf hn
      cases (fs.testBit r.i && !Nat.beq r.i i) with
      | false => exact ih
      | true =>
        show (pendM fs i l ||| 2 ^ r.i).testBit x = true
        rw [testBit_or_pow, ih]; rfl
theorem Corr.un_mem (h : Corr ops m l listed) {i : Nat} (hi : listed.getD i true = false) : ∃ r ∈ l, r.i = i := by
  have hs : i < ops.size := by
    rw [← h.size]
    rcases Nat.lt_or_ge i listed.size with h' | h'
    · exact h'
    · simp [Array.getElem?_eq_none h'] at hi
  obtain ⟨r, hr, e⟩ := allR_ex hs
  refine ⟨r, ?_, e⟩
  rw [h.rest]
  refine List.mem_filter.2 ⟨hr, ?_⟩
  rw [e, ← h.bit i hs, hi]; rfl
theorem Corr.wt (h : Corr ops m l listed) {fs r : Nat} (hw : wtB fs (allR ops) l r = true) : Wt ops (fun i => fs.testBit i) listed r := by
  intro i hf hne hun j oj hoj hjun ⟨e, he, hb, hon⟩
  have hf : fs.testBit i = true := hf
  unfold wtB at hw
  rw [Bool.or_eq_true, allL_eq, List.all_eq_true] at hw
  rcases hw with hw | hw
  · have := Nat.eq_of_beq_eq_true hw
    subst this
    simp at hf
  · obtain ⟨ri, hri, hrie⟩ := h.un_mem hun
    obtain ⟨q, hq, hqe⟩ := h.un_mem hjun
    obtain ⟨g1, g2, _⟩ := allR_mem (h.mem hq).1
    subst hqe
    rw [hoj] at g1
    injection g1 with g1
    have hd : q.deps.testBit i = true := by
      rw [g2, depM_bit, ← g1]
      exact ⟨e, he, hb, hon⟩
    have h2 := hw q hq
    rw [Bool.or_eq_true] at h2
    rcases h2 with h2 | h2
    · exfalso
      have := Nat.eq_of_beq_eq_true h2
      have h3 : (q.deps &&& pendM fs r l).testBit i = true := by
        rw [Nat.testBit_and, hd, pendM_bit hri hrie hf hne]; rfl
      rw [this] at h3
      simp at h3
    · exact waitsR_ok (by rw [hoj, g1]) g2 h2
theorem planGo_ok {fs : Nat} : ∀ (n : Nat) {m : Nat} {l : List Rec} {listed : Array Bool} {pl : List Stp}, Corr ops m l listed → planGo fs (allR ops) n m l = some pl → PlanOk ops (fun i => fs.testBit i) pl listed
  | n, m, l, listed, pl, hc, h => by
    have hrdy : ∀ {j}, j ∈ Region.ready .any ops listed → ∃ r ∈ l.filter (readyR m), r.i = j := fun {j} hj => by
      rw [hc.ready] at hj
      obtain ⟨r, h1, h2⟩ := List.mem_map.1 hj
      exact ⟨r, h1, h2⟩
    cases n with
    | zero =>
      unfold planGo at h
      split at h
      · rename_i hl
        injection h with h
        subst h
        rw [readyL_eq] at hl
        show Region.ready .any ops listed = []
        rw [hc.ready, hl]; rfl
      · cases h
    | succ n =>
      unfold planGo at h
      split at h
      · rename_i r hr
        obtain ⟨a1, a2, a3, a4⟩ := firstR_some hr
        split at h
        · rename_i p hf hp
          injection h with h
          subst h
          exact ⟨hf, hc.mem_ready a1 a3, hc.free a1 a4, trivial, planGo_ok n (hc.set a1) hp⟩
        · cases h
      · split at h
        · rename_i hpl
          rw [plain_eq, readyL_eq] at hpl
          have hallf : ∀ r ∈ l.filter (readyR m), fs.testBit r.i = true := fun r hr => by
            cases hb : fs.testBit r.i with
            | true => rfl
            | false =>
              have : r ∈ (l.filter (readyR m)).filter (fun r => !fs.testBit r.i) := List.mem_filter.2 ⟨hr, by rw [hb]; rfl⟩
              rw [hpl] at this; cases this
          split at h
          · rename_i hl
            injection h with h
            subst h
            rw [readyL_eq] at hl
            show Region.ready .any ops listed = []
            rw [hc.ready, hl]; rfl
          · rename_i r more hl
            rw [readyL_eq] at hl
            have hrl : r ∈ l.filter (readyR m) := by rw [hl]; exact List.mem_cons_self
            have hrl' := List.mem_filter.1 hrl
            split at h
            · rename_i p hw hp
              injection h with h
              subst h
              refine ⟨hallf r hrl, hc.mem_ready hrl'.1 hrl'.2, fun j hj => ?_, hc.wt hw, planGo_ok n (hc.set hrl'.1) hp⟩
              obtain ⟨q, hq, rfl⟩ := hrdy hj
              exact hallf q hq
            · cases h
        · rename_i r hpl
          rw [plain_eq, readyL_eq] at hpl
          have hrl : r ∈ (l.filter (readyR m)).filter (fun r => !fs.testBit r.i) := by rw [hpl]; exact List.mem_singleton_self r
          have hrl1 := List.mem_filter.1 hrl
          have hrl' := List.mem_filter.1 hrl1.1
          have hrf : fs.testBit r.i = false := by simpa using hrl1.2
          split at h
          · rename_i hw
            split at h
            · rename_i p hp
              injection h with h
              subst h
              refine ⟨hrf, hc.mem_ready hrl'.1 hrl'.2, fun j hj => ?_, hc.wt hw, planGo_ok n (hc.set hrl'.1) hp⟩
              obtain ⟨q, hq, rfl⟩ := hrdy hj
              cases hb : fs.testBit q.i with
              | true => exact .inr hb
              | false =>
                have : q ∈ (l.filter (readyR m)).filter (fun r => !fs.testBit r.i) := List.mem_filter.2 ⟨hq, by rw [hb]; rfl⟩
                rw [hpl] at this
                rw [List.mem_singleton.1 this]; exact .inl rfl
            · cases h
          · split at h
            · cases h
            · rename_i r2 hr2
              obtain ⟨a1, a2, a3, a4⟩ := firstR_some hr2
              split at h
              · rename_i p hf hp
                injection h with h
                subst h
                exact ⟨hf, hc.mem_ready a1 a3, hc.free a1 a4, trivial, planGo_ok n (hc.set a1) hp⟩
              · cases h
        · rename_i a b more hpl
          split at h
          · cases h
          · rename_i r hr
            obtain ⟨a1, a2, a3, a4⟩ := firstR_some hr
            split at h
            · rename_i n hpr
              rw [Bool.and_eq_true] at hpr
              obtain ⟨hfs, hpr⟩ := hpr
              have hfs := Nat.eq_of_beq_eq_true hfs
              subst hfs
              have hl : l.filter (readyR m) = [a, b] := by
                rw [plain_eq, readyL_eq] at hpl
                rw [← hpl]
                exact (List.filter_eq_self.2 (fun r _ => by simp)).symm
              have hal : a ∈ l.filter (readyR m) := by rw [hl]; simp
              have hbl : b ∈ l.filter (readyR m) := by rw [hl]; simp
              have ha := List.mem_filter.1 hal
              have hb := List.mem_filter.1 hbl
              unfold pairR at hpr
              simp only [Bool.and_eq_true, allL_eq, List.all_eq_true, Bool.or_eq_true, Bool.not_eq_true'] at hpr
              obtain ⟨⟨⟨⟨⟨p1, p2⟩, p3⟩, p4⟩, p5⟩, p6⟩ := hpr
              have hnd : ((l.filter (readyR m)).map (·.i)).Nodup := by
                rw [hc.rest, List.filter_filter]
                refine List.Nodup.sublist (List.Sublist.map _ List.filter_sublist) ?_
                rw [allR_map]
                exact List.nodup_range
              rw [hl] at hnd
              have hab : a.i ≠ b.i := by simpa using hnd
              have hba : Nat.beq b.i a.i = false := by
                cases hq : Nat.beq b.i a.i with
                | false => rfl
                | true => exact absurd (Nat.eq_of_beq_eq_true hq).symm hab
              have hba' : Nat.beq a.i b.i = false := by
                cases hq : Nat.beq a.i b.i with
                | false => rfl
                | true => exact absurd (Nat.eq_of_beq_eq_true hq) hab
              have haA := (hc.mem ha.1).1
              have hbA := (hc.mem hb.1).1
              have only : ∀ (x y : Rec), x ∈ l → y ∈ l → readyR m y = true → (∀ q ∈ l, readyR (m ||| 2 ^ x.i) q = true → q.i = x.i ∨ q.i = y.i) → (without x.i l).filter (readyR (m ||| 2 ^ x.i)) = (l.filter (readyR m)).filter (fun r => !Nat.beq r.i x.i) := by
                intro x y hx hy hry hq
                rw [without_eq, List.filter_filter, List.filter_filter]
                apply List.filter_congr
                intro q hql
                rw [Bool.and_comm]
                cases hqx : Nat.beq q.i x.i with
                | true => simp
                | false =>
                  simp only [Bool.not_false, Bool.true_and]
                  rw [Bool.eq_iff_iff]
                  constructor
                  · intro hqr
                    rcases hq q hql hqr with e | e
                    · exact absurd e (Nat.ne_of_beq_eq_false hqx)
                    · have : q = y := allR_inj (hc.mem hql).1 (hc.mem hy).1 e
                      rw [this]; exact hry
                  · exact readyR_mono
              have o1 := only a b ha.1 hb.1 hb.2 (fun q hql hqr => by
                rcases p6 q hql with e | e | ⟨e, _⟩
                · exact .inl (Nat.eq_of_beq_eq_true e)
                · exact .inr (Nat.eq_of_beq_eq_true e)
                · rw [hqr] at e; cases e)
              have o2 := only b a hb.1 ha.1 ha.2 (fun q hql hqr => by
                rcases p6 q hql with e | e | ⟨_, e⟩
                · exact .inr (Nat.eq_of_beq_eq_true e)
                · exact .inl (Nat.eq_of_beq_eq_true e)
                · rw [hqr] at e; cases e)
              rw [hl] at o1 o2
              simp only [List.filter_cons, Nat.beq_refl, hba, hba', Bool.not_true, Bool.not_false, List.filter_nil, if_true] at o1 o2
              simp only [Bool.false_eq_true, if_false] at o1 o2
              have hbw : b ∈ without a.i l := by
                rw [without_eq]; exact List.mem_filter.2 ⟨hb.1, by rw [hba]; rfl⟩
              split at h
              · rename_i p hp
                injection h with h
                subst h
                have q1 := planGo_ok n ((hc.set ha.1).set hbw) hp
                exact ⟨fun x => by simp, by rw [hc.ready, hl]; rfl, by rw [(hc.set ha.1).ready, o1]; rfl, by rw [(hc.set hb.1).ready, o2]; rfl, ⟨a.o, b.o, (allR_mem haA).1, (allR_mem hbA).1, by simpa using p3, by simpa using p4, apartR_ok (allR_mem haA).2.2 (allR_mem hbA).2.2 p5, hab⟩, q1⟩
              · cases h
            · split at h
              · rename_i p hf hp
                injection h with h
                subst h
                exact ⟨hf, hc.mem_ready a1 a3, hc.free a1 a4, trivial, planGo_ok _ (hc.set a1) hp⟩
              · cases h
theorem floM_bit {all : List Rec} {x : Nat} : ∀ {l : List Rec}, (floM all l).testBit x = true → ∃ r ∈ l, r.i = x ∧ floR all r = true
  | [], h => by
    have h' : (0 : Nat).testBit x = true := h
    simp at h'
  | r :: l, h => by
    have h' : (Bool.rec (floM all l) (floM all l ||| 2 ^ r.i) (floR all r) : Nat).testBit x = true := h
    cases hb : floR all r with
    | false =>
      rw [hb] at h'
      obtain ⟨q, hq, h1⟩ := floM_bit h'
      exact ⟨q, List.mem_cons_of_mem _ hq, h1⟩
    | true =>
      rw [hb] at h'
      have h' : (floM all l ||| 2 ^ r.i).testBit x = true := h'
      rw [testBit_or_pow, Bool.or_eq_true, decide_eq_true_iff] at h'
      rcases h' with h' | h'
      · obtain ⟨q, hq, h1⟩ := floM_bit h'
        exact ⟨q, List.mem_cons_of_mem _ hq, h1⟩
      · exact ⟨r, List.mem_cons_self, h', hb⟩
theorem flo_ok {P : Program} (hz : allL (zeroB P) ops.toList = true) : FloOk P ops (fun i => (floM (allR ops) (allR ops)).testBit i) := by
  intro i hi
  obtain ⟨r, hr, rfl, hf⟩ := floM_bit hi
  obtain ⟨g1, g2, g3⟩ := allR_mem hr
  unfold floR at hf
  simp only [Bool.and_eq_true] at hf
  obtain ⟨f1, f2, f3⟩ := hf
  have f2 := Nat.eq_of_beq_eq_true f2
  have hzr : zeroB P r.o = true := by
    rw [allL_eq, List.all_eq_true] at hz
    exact hz r.o (by simpa using Array.mem_of_getElem? g1)
  obtain ⟨ty, d, h1, h2, h3⟩ : ∃ ty d, r.o.op = .alloc ty ∧ r.o.dst = some d ∧ r.o.guard = none := by
    unfold isAlloc at f1
    split at f1
    · rename_i ty d e1 e2 e3
      exact ⟨ty, d, e1, e3, e2⟩
    · cases f1
  unfold zeroB at hzr
  rw [h1] at hzr
  simp only at hzr
  split at hzr
  · rename_i inf hinf
    obtain ⟨z, hzz⟩ := Option.isSome_iff_exists.1 hzr
    refine ⟨r.o, ty, d, inf, z, g1, h1, h2, h3, hinf, hzz, fun e he => ?_, fun j oj hj hne => ?_⟩
    · cases hb : Region.binds .any e with
      | false => rfl
      | true =>
        have := (depM_bit r.o e.on).2 ⟨e, he, hb, rfl⟩
        rw [← g2, f2] at this
        simp at this
    · unfold freeR at f3
      rw [allL_eq, List.all_eq_true] at f3
      have hjs : j < ops.size := (Array.getElem?_eq_some_iff.1 hj).1
      obtain ⟨q, hq, rfl⟩ := allR_ex hjs
      obtain ⟨k1, k2, k3⟩ := allR_mem hq
      rw [hj] at k1
      injection k1 with k1
      subst k1
      have := f3 q hq
      simp only [Bool.or_eq_true] at this
      rcases this with h' | h' | h'
      · exact absurd (Nat.eq_of_beq_eq_true h') hne
      · rw [k2, depM_bit] at h'
        exact .inl h'
      · exact .inr (apartR_ok g3 k3 h')
  · cases hzr
theorem plan_ok {pl : List Stp} {fs : Nat} (h : plan ops = some (fs, pl)) : Region.noSelect ops = true ∧ PlanOk ops (fun i => fs.testBit i) pl (Array.replicate ops.size false) ∧ (fs = 0 ∨ fs = floM (allR ops) (allR ops)) := by
  have h0 : Corr ops 0 (allR ops) (Array.replicate ops.size false) := ⟨by simp, fun i hi => by simp [Array.getD, hi], fun i hi => by simp at hi, by
    rw [List.filter_eq_self.2]
    intro r _
    simp⟩
  unfold plan at h
  split at h
  · rename_i hs
    unfold planW at h
    split at h
    · rename_i p hp
      injection h with h
      injection h with h1 h2
      subst h1 h2
      exact ⟨hs, planGo_ok _ h0 hp, .inl rfl⟩
    · split at h
      · rename_i p hp
        injection h with h
        injection h with h1 h2
        subst h1 h2
        exact ⟨hs, planGo_ok _ h0 hp, .inr rfl⟩
      · cases h
  · cases h
end
end Go.Proofs.YtajcapliokblfaaDoor
set_option linter.unusedVariables false
set_option linter.unusedSectionVars false
set_option linter.unusedSimpArgs false
namespace Go.Proofs.YtajcapliokblfaaDoor
open Go Go.RowKit

section
variable [Env] [Know]
variable {P : Program} {R : Rho}
theorem Inv.drawn {s : AS} {w : World} {fl b : Nat} (h : Inv R s w fl b) (n : Nat) : Inv R s { w with drawn := n } fl b := h.same rfl
theorem Went.drawn {R' : Rho} {s s' : AS} {w w' : World} {fl b n : Nat} (h : Went R R' s s' { w with drawn := n } w' fl b) : Went R R' s s' w w' fl b :=
  ⟨h.ext, h.old, h.num, h.keep, h.inv, ⟨h.below.os, h.below.tape, h.below.output, h.below.size, h.below.block⟩, h.fresh, h.more, h.wrote, h.other⟩
theorem evalRegion_ok (hK : KnowOk P) {call : CallE} (hcall : CallOk P call) (hm : P.follows .mixedOrders = true) {floor base : Nat} {id : Nat} {ops : Array Oper} {draw : Bool} {f f' : Fr} {s s' : AS} (h : evalRegion P call floor ops draw f s = some (f', s'))
    {w : World} {a : Act} (hI : Inv R s w floor base) (hf : FRel R f a.tmps) {Q : Exit → Act → World → Prop} (hQ : ∀ R' a' w', Went R R' s s' w w' floor base → FRel R' f' a'.tmps → a'.defers = a.defers → Q .normal a' w') :
    (Code.region id ops draw).wp P Q a w := by
  unfold evalRegion at h
  split at h
  · exact wp_region_list (evalSeq_ok hK hcall ops.toList h hI hf hQ)
  · split at h
    · rename_i fs pl hpl
      split at h
      · rename_i hz
        split at h
        · rename_i f1 s1 tf he
          injection h with h
          injection h with h1 h2
          subst h1 h2
          obtain ⟨hns, hp, hfs⟩ := plan_ok hpl
          have hfl : FloOk P ops (fun i => fs.testBit i) := by
            rcases hfs with rfl | rfl
            · intro i hi; simp at hi
            · rw [Bool.or_eq_true] at hz
              rcases hz with hz | hz
              · rw [Nat.eq_of_beq_eq_true hz]; intro i hi; simp at hi
              · exact flo_ok hz
          let Q0 : Exit → Act → World → Prop := fun e a' w' => e = .normal ∧ Q .normal a' w'
          refine wp_mono (Q := Q0) ?_ (fun e a' w' hq => by obtain ⟨rfl, hq⟩ := hq; exact hq)
          refine wp_region_any hm (wpAny_of_U (S := Stands R s { w with drawn := w.drawn + 1 } tf) _ ?_)
          have hI1 := hI.drawn (w.drawn + 1)
          have hdown : Down ops (Array.replicate ops.size false) := fun j o ho hj => by
            have hjs : j < ops.size := (Array.getElem?_eq_some_iff.1 ho).1
            simp [hjs] at hj
          exact evalPlan_ok (Q := Q0) hK hcall hns (fun c a w h => by cases h.1) hfl hI1 (a0 := a) (fun R' a' w' hg hf2 hd => ⟨rfl, hQ R' a' w' hg.drawn hf2 hd⟩) _ pl (T := []) (Nat.le_refl _) hp he
            hdown (by show (Array.replicate ops.size false).toList.count false ≤ ops.size; rw [Array.toList_replicate, List.count_replicate]; simp) (fun t ht => by cases ht) .nil (Went.refl hI1) hf rfl (fun _ _ _ _ => rfl) (fun _ _ _ _ _ _ _ => rfl) (fun p hp => by cases hp)
        · cases h
      · cases h
    · cases h
def AX.out : AX → Exit
  | .normal => .normal
  | .exit id => .exit id
  | .goto l => .goto l
  | .ret => .ret
def FinE (R : Rho) (s : AS) (w : World) (a : Act) (floor base : Nat) (x : AX) (f' : Fr) (s' : AS) (e : Exit) (a' : Act) (w' : World) : Prop :=
  e = x.out ∧ ∃ R', Went R R' s s' w w' floor base ∧ FRel R' f' a'.tmps ∧ a'.defers = a.defers
def CodeOk (P : Program) (code : CodeE) : Prop := ∀ {floor : Nat} {c : Code} {f : Fr} {s : AS} {x : AX} {f' : Fr} {s' : AS}, code floor c f s = some (x, f', s') →
  ∀ {R : Rho} {w : World} {base : Nat} {a : Act}, Inv R s w floor base → FRel R f a.tmps → c.wp P (FinE R s w a floor base x f' s') a w
def LoopOk (P : Program) (code : CodeE) : Prop := ∀ {floor : Nat} {c : Code} {f : Fr} {s : AS} {x : AX} {f' : Fr} {s' : AS}, code floor c f s = some (x, f', s') →
  ∀ {R : Rho} {w : World} {base : Nat} {a : Act}, Inv R s w floor base → FRel R f a.tmps → ∀ (b : Frame) (k : List Item) (cs : List Frame),
    ∃ e a' w', FinE R s w a floor base x f' s' e a' w' ∧ Arrives P (lone (b.at a (.code c :: .inLoop c :: k)) cs w) b k cs e a' w'
def ScopeOk (P : Program) (code : Nat → Code → Code → Fr → AS → Option (AX × Fr × AS)) : Prop := ∀ {floor : Nat} {c cur : Code} {f : Fr} {s : AS} {x : AX} {f' : Fr} {s' : AS}, code floor c cur f s = some (x, f', s') →
  ∀ {R : Rho} {w : World} {base : Nat} {a : Act}, Inv R s w floor base → FRel R f a.tmps → ∀ (b : Frame) (k : List Item) (cs : List Frame),
    ∃ e a' w', FinE R s w a floor base x f' s' e a' w' ∧ Arrives P (lone (b.at a (.code cur :: .inScope c :: k)) cs w) b k cs e a' w'
structure EvOk (P : Program) (E : Ev) : Prop where
  code : CodeOk P E.code
  loop : LoopOk P E.loop
  scope : ScopeOk P E.scope
  call : CallOk P E.call
theorem FinE.trans {R R1 : Rho} {s s1 s2 : AS} {w w1 : World} {a a1 : Act} {fl b : Nat} {x : AX} {f2 : Fr} {e : Exit} {a' : Act} {w' : World} (h : Went R R1 s s1 w w1 fl b) (hd : a1.defers = a.defers) (h2 : FinE R1 s1 w1 a1 fl b x f2 s2 e a' w') :
    FinE R s w a fl b x f2 s2 e a' w' :=
  let ⟨he, R', hg, hf, hd2⟩ := h2
  ⟨he, R', h.trans hg, hf, hd2.trans hd⟩
theorem codeStep_ok (hK : KnowOk P) {E : Ev} (hE : EvOk P E) (hm : P.follows .mixedOrders = true) : CodeOk P (codeStep P E) := by
  intro floor c f s x f' s' h R w base a hI hf
  unfold codeStep at h
  split at h
  · injection h with h; injection h with h1 h; injection h with h2 h3; subst h1 h2 h3
    exact wp_skip ⟨rfl, R, Went.refl hI, hf, rfl⟩
  · injection h with h; injection h with h1 h; injection h with h2 h3; subst h1 h2 h3
    exact wp_label ⟨rfl, R, Went.refl hI, hf, rfl⟩
  · rename_i id ops draw
    unfold codeRegion at h
    split at h
    · rename_i f1 s1 he
      rw [forceF_eq] at h
      injection h with h; injection h with h1 h; injection h with h2 h3; subst h1 h2 h3
      exact evalRegion_ok hK hE.call hm he hI hf fun R' a' w' hg hf2 hd => ⟨rfl, R', hg, hf2, hd⟩
    · cases h
  · rename_i p q
    unfold codeSeq at h
    refine wp_seq ?_
    cases he : E.code floor p f s with
    | none => rw [he] at h; cases h
    | some r =>
      obtain ⟨x1, f1, s1⟩ := r
      rw [he] at h
      refine wp_mono (hE.code he hI hf) fun e a1 w1 hq => ?_
      obtain ⟨hx, R1, hg, hf1, hd⟩ := hq
      subst hx
      cases x1 with
      | normal => exact wp_mono (hE.code h hg.inv hf1) fun e a2 w2 hq2 => FinE.trans hg hd hq2
      | exit id => injection h with h; injection h with h1 h; injection h with h2 h3; subst h1 h2 h3; exact ⟨rfl, R1, hg, hf1, hd⟩
      | goto l => injection h with h; injection h with h1 h; injection h with h2 h3; subst h1 h2 h3; exact ⟨rfl, R1, hg, hf1, hd⟩
      | ret => injection h with h; injection h with h1 h; injection h with h2 h3; subst h1 h2 h3; exact ⟨rfl, R1, hg, hf1, hd⟩
  · rename_i o p q
    unfold codeCond at h
    have hr := opnd_ok hf o
    split at h
    · rename_i e; rw [e] at hr; exact wp_cond_true (lit_inv hr) (hE.code h hI hf)
    · rename_i e; rw [e] at hr; exact wp_cond_false (lit_inv hr) (hE.code h hI hf)
    · cases h
  · rename_i id p
    unfold codeBlock at h
    refine wp_block ?_
    cases he : E.code floor p f s with
    | none => rw [he] at h; cases h
    | some r =>
      obtain ⟨x1, f1, s1⟩ := r
      rw [he] at h
      refine wp_mono (hE.code he hI hf) fun e a1 w1 hq => ?_
      obtain ⟨hx, R1, hg, hf1, hd⟩ := hq
      subst hx
      cases x1 with
      | exit j =>
        simp only at h
        show (if j = id then _ else _)
        split at h
        · rename_i hb
          have hb := Nat.eq_of_beq_eq_true hb
          rw [if_pos hb]
          injection h with h; injection h with h1 h; injection h with h2 h3; subst h1 h2 h3
          exact ⟨rfl, R1, hg, hf1, hd⟩
        · rename_i hb
          have hb := Nat.ne_of_beq_eq_false hb
          rw [if_neg hb]
          injection h with h; injection h with h1 h; injection h with h2 h3; subst h1 h2 h3
          exact ⟨rfl, R1, hg, hf1, hd⟩
      | normal => injection h with h; injection h with h1 h; injection h with h2 h3; subst h1 h2 h3; exact ⟨rfl, R1, hg, hf1, hd⟩
      | goto l => injection h with h; injection h with h1 h; injection h with h2 h3; subst h1 h2 h3; exact ⟨rfl, R1, hg, hf1, hd⟩
      | ret => injection h with h; injection h with h1 h; injection h with h2 h3; subst h1 h2 h3; exact ⟨rfl, R1, hg, hf1, hd⟩
  · rename_i p
    intro b k cs
    obtain ⟨e, a', w', hq, harr⟩ := hE.loop h hI hf b k cs
    exact ⟨e, a', w', hq, .of_steps (.one step_loop) harr⟩
  · rename_i p
    intro b k cs
    obtain ⟨e, a', w', hq, harr⟩ := hE.scope h hI hf b k cs
    exact ⟨e, a', w', hq, .of_steps (.one step_scope) harr⟩
  · injection h with h; injection h with h1 h; injection h with h2 h3; subst h1 h2 h3
    exact wp_exit ⟨rfl, R, Went.refl hI, hf, rfl⟩
  · injection h with h; injection h with h1 h; injection h with h2 h3; subst h1 h2 h3
    exact wp_goto ⟨rfl, R, Went.refl hI, hf, rfl⟩
  · injection h with h; injection h with h1 h; injection h with h2 h3; subst h1 h2 h3
    exact wp_ret ⟨rfl, R, Went.refl hI, hf, rfl⟩
  · cases h
theorem loopStep_ok {E : Ev} (hE : EvOk P E) : LoopOk P (loopStep E) := by
  intro floor c f s x f' s' h R w base a hI hf b k cs
  unfold loopStep at h
  cases he : E.code floor c f s with
  | none => rw [he] at h; cases h
  | some r =>
    obtain ⟨x1, f1, s1⟩ := r
    rw [he] at h
    obtain ⟨e, a1, w1, hq, harr⟩ := hE.code he hI hf b (.inLoop c :: k) cs
    obtain ⟨hx, R1, hg, hf1, hd⟩ := hq
    subst hx
    cases x1 with
    | normal =>
      obtain ⟨e2, a2, w2, hq2, harr2⟩ := hE.loop h hg.inv hf1 b k cs
      exact ⟨e2, a2, w2, FinE.trans hg hd hq2, .of_steps (Steps.trans harr (.one step_inLoop)) harr2⟩
    | exit id =>
      injection h with h; injection h with h1 h; injection h with h2 h3; subst h1 h2 h3
      exact ⟨_, a1, w1, ⟨rfl, R1, hg, hf1, hd⟩, .pass (x := .inLoop c) rfl (fun _ _ => .inl (by simp [AX.out])) harr⟩
    | goto l =>
      injection h with h; injection h with h1 h; injection h with h2 h3; subst h1 h2 h3
      exact ⟨_, a1, w1, ⟨rfl, R1, hg, hf1, hd⟩, .pass (x := .inLoop c) rfl (fun _ _ => .inl (by simp [AX.out])) harr⟩
    | ret =>
      injection h with h; injection h with h1 h; injection h with h2 h3; subst h1 h2 h3
      exact ⟨_, a1, w1, ⟨rfl, R1, hg, hf1, hd⟩, .pass (x := .inLoop c) rfl (fun _ _ => .inl (by simp [AX.out])) harr⟩
theorem scopeStep_ok {E : Ev} (hE : EvOk P E) : ScopeOk P (scopeStep E) := by
  intro floor c cur f s x f' s' h R w base a hI hf b k cs
  unfold scopeStep at h
  cases he : E.code floor cur f s with
  | none => rw [he] at h; cases h
  | some r =>
    obtain ⟨x1, f1, s1⟩ := r
    rw [he] at h
    obtain ⟨e, a1, w1, hq, harr⟩ := hE.code he hI hf b (.inScope c :: k) cs
    obtain ⟨hx, R1, hg, hf1, hd⟩ := hq
    subst hx
    cases x1 with
    | normal =>
      injection h with h; injection h with h1 h; injection h with h2 h3; subst h1 h2 h3
      exact ⟨_, a1, w1, ⟨rfl, R1, hg, hf1, hd⟩, Steps.trans harr (.one step_inScope)⟩
    | exit id =>
      injection h with h; injection h with h1 h; injection h with h2 h3; subst h1 h2 h3
      exact ⟨_, a1, w1, ⟨rfl, R1, hg, hf1, hd⟩, fun k' hk => harr k' (by simp [exitTo, hk])⟩
    | goto l =>
      simp only at h
      cases hl : findLabel c l with
      | some rest =>
        rw [hl] at h
        have hgo : gotoIn l (.inScope c :: k) = some (.code rest :: .inScope c :: k) := by simp [gotoIn, hl]
        obtain ⟨e2, a2, w2, hq2, harr2⟩ := hE.scope h hg.inv hf1 b k cs
        exact ⟨e2, a2, w2, FinE.trans hg hd hq2, .of_steps (harr _ hgo) harr2⟩
      | none =>
        rw [hl] at h
        injection h with h; injection h with h1 h; injection h with h2 h3; subst h1 h2 h3
        exact ⟨_, a1, w1, ⟨rfl, R1, hg, hf1, hd⟩, fun k' hk => harr k' (by simp [gotoIn, hl, hk])⟩
    | ret =>
      injection h with h; injection h with h1 h; injection h with h2 h3; subst h1 h2 h3
      exact ⟨_, a1, w1, ⟨rfl, R1, hg, hf1, hd⟩, harr⟩
def resF (tmps : Array Value) : ResultVar → Sem Value
  | .tmp t => pure (tmps.getD t undef)
  | .cell a t => do loadVar t (← asAddr (tmps.getD a undef))
theorem results_eq (fn : Func) (tmps : Array Value) : results fn tmps = (do let vs ← fn.results.mapM (resF tmps); pure (if h : vs.size = 1 then vs[0] else .tuple vs)) := by
  have : (fun (r : ResultVar) => (match r with
      | .tmp t => pure (tmps.getD t undef)
      | .cell a t => do loadVar t (← asAddr (tmps.getD a undef)) : Sem Value)) = resF tmps := funext fun r => by cases r <;> rfl
  unfold results
  rw [← this]
  rfl
theorem resA_ok {s : AS} {w : World} {fl b : Nat} (hI : Inv R s w fl b) {f : Fr} {tmps : Array Value} (hf : FRel R f tmps) : ∀ {l : List ResultVar} {vs : List AV}, resA P f s l = some vs →
    ∃ xs, VRels R vs xs ∧ (l.mapM (resF tmps)).run P w = .ok xs w
  | [], vs, h => by
    simp only [resA] at h
    injection h with h; subst h
    exact ⟨[], VRels.nil, rfl⟩
  | .tmp t :: r, vs, h => by
    simp only [resA] at h
    split at h
    · rename_i l' hl
      injection h with h; subst h
      obtain ⟨xs, h1, h2⟩ := resA_ok hI hf hl
      have := opnd_ok (a := ⟨tmps, []⟩) hf (.tmp t)
      exact ⟨_, VRels.cons this h1, by rw [List.mapM_cons]; simp only [resF, Sem.run_bind, Sem.run_pure, Result.andThen_ok, h2]; rfl⟩
    · cases h
  | .cell p t :: r, vs, h => by
    simp only [resA] at h
    split at h
    · rename_i k off e1
      split at h
      · rename_i B hB
        split at h
        · rename_i v l' hv hl
          injection h with h; subst h
          obtain ⟨xs, h1, h2⟩ := resA_ok hI hf hl
          have hp := opnd_ok (a := ⟨tmps, []⟩) hf (.tmp p)
          have e1' : opnd f (.tmp p) = .ptr k off := e1
          rw [e1'] at hp
          obtain ⟨b, T, r3, r4⟩ := ptr_inv hp
          have r4' : tmps.getD p undef = .pointer (some ⟨b, off, none⟩) := r4
          obtain ⟨b', T', r5, r6⟩ := hI.rel.blk hB
          obtain ⟨rfl, rfl⟩ := hI.rel.fn r3 r5
          obtain ⟨y, hy, hrun⟩ := load_ok (P := P) hv r6
          have hrun := hrun w rfl
          have : (loadVar t ⟨b, off, none⟩).run P w = .ok y w := by simpa [Instr.loadAt, Instr.sureAddr] using hrun
          refine ⟨_, VRels.cons hy h1, ?_⟩
          have hr1 : (resF tmps (.cell p t)).run P w = .ok y w := by
            simp only [resF, r4', asAddr, Sem.run_bind, Sem.run_pure, Result.andThen_ok, this]
          rw [List.mapM_cons]
          simp only [Sem.run_bind, Sem.run_pure, Result.andThen_ok, hr1, h2]
        · cases h
      · cases h
    · cases h
theorem look_dropNew_lt {j n : Nat} (hj : j < n) : ∀ {h : List (Nat × List AV)}, look j (dropNew n h) = look j h
  | [] => rfl
  | p :: h => by
    rw [dropNew_cons]
    split
    · rw [look_cons, if_neg (by omega), look_dropNew_lt hj]
    · rw [look_cons, look_cons, look_dropNew_lt hj]
theorem Went.end_ {R' : Rho} {s s' : AS} {w w' : World} {fl b : Nat} (hI : Inv R s w fl b) (h : Went R R' ⟨s.n, s.h, [], s.gl⟩ s' w w' fl b) : Went R R' s ⟨s'.n, s'.h, unionW (oldW s.n s'.wr) s.wr, s'.gl⟩ w w' fl b :=
  ⟨h.ext, h.old, h.num, h.keep, h.inv.wr_ _, h.below, h.fresh, fun _ hk => unionW_iff.2 (.inr hk), fun hk r hn => h.wrote hk r (fun hc => hn (unionW_iff.2 (.inl (oldW_iff.2 ⟨hc, (hI.rel.dom r).1⟩)))), h.other⟩
theorem Went.drop {R' : Rho} {s s' : AS} {w w' : World} {fl b : Nat} (hI : Inv R s w fl b) (h : Went R R' ⟨s.n, s.h, [], s.gl⟩ s' w w' fl b) : Went R R' s ⟨s'.n, dropNew s.n s'.h, unionW (oldW s.n s'.wr) s.wr, s'.gl⟩ w w' fl b :=
  have h' := h.end_ hI
  ⟨h'.ext, h'.old, h'.num, fun k hk => (look_dropNew_lt (by have := hI.hf; omega)).trans (h'.keep k hk),
    ⟨⟨h'.inv.rel.fn, h'.inv.rel.dom, fun h1 h2 r1 r2 => h'.inv.rel.inj (look_dropNew_some h1) (look_dropNew_some h2) r1 r2, fun h1 => h'.inv.rel.blk (look_dropNew_some h1)⟩, h'.inv.hb, h'.inv.hf, h'.inv.own, h'.inv.glo, h'.inv.kgl⟩, h'.below, h'.fresh, h'.more,
    fun hk r hn => let ⟨c1, c2⟩ := h'.wrote hk r hn; ⟨c1, (look_dropNew_lt (hI.rel.dom r).1).trans c2⟩, h'.other⟩
theorem callStep_ok {E : Ev} (hE : EvOk P E) : CallOk P (callStep P E) := by
  intro floor g l s v s' h R w base xs hI hl
  unfold callStep at h
  split at h
  · rename_i fn hfn
    split at h
    · rename_i c hc
      have hlen := hl.length
      have hf0 : FRel R (frame fn.ntmps l) (xs.toArray ++ Array.replicate (fn.ntmps - xs.toArray.size) undef) := frame_ok hl
      have body : ∀ {x : AX} {f1 : Fr} {s1 : AS}, E.code floor c (frame fn.ntmps l) ⟨s.n, s.h, [], s.gl⟩ = some (x, f1, s1) → (x = .normal ∨ x = .ret) →
          ∀ {vs : List AV}, resA P f1 s1 fn.results.toList = some vs → ∀ {s2 : AS} {u : AV}, (∀ {R' : Rho} {w' : World}, Went R R' ⟨s.n, s.h, [], s.gl⟩ s1 w w' floor base → Went R R' s s2 w w' floor base) →
          (∀ {R' : Rho} {ys : List Value}, VRels R' vs ys → VRel R' u (if h : ys.toArray.size = 1 then ys.toArray[0] else .tuple ys.toArray)) →
          Calls P g xs.toArray w fun e w' => ∃ R' x, e = .returned x ∧ VRel R' u x ∧ Went R R' s s2 w w' floor base := by
        intro x f1 s1 he hx vs hvs s2 u hs hu
        refine calls_of_wp hfn hc ?_
        refine wp_mono (hE.code he (hI.wr_ []) (a := { tmps := xs.toArray ++ Array.replicate (fn.ntmps - xs.toArray.size) undef, defers := [] }) hf0) fun e a1 w1 hq => ?_
        obtain ⟨hx', R1, hg, hf1, hd⟩ := hq
        obtain ⟨ys, h1, h2⟩ := resA_ok (P := P) hg.inv hf1 hvs
        have hres : (results fn a1.tmps).run P w1 = .ok (if h : ys.toArray.size = 1 then ys.toArray[0] else .tuple ys.toArray) w1 := by
          rw [results_eq, Array.mapM_eq_mapM_toList]
          simp only [Sem.run_bind, Sem.run_map, h2, Result.andThen_ok, Sem.run_pure]
        have fin : a1.defers = [] ∧ ∃ v, (results fn a1.tmps).run P w1 = .ok v w1 ∧ ∃ R' x, Ending.returned v = .returned x ∧ VRel R' u x ∧ Went R R' s s2 w w1 floor base :=
          ⟨hd, _, hres, R1, _, rfl, hu h1, hs hg⟩
        rcases hx with rfl | rfl
        · subst hx'; exact fin
        · subst hx'; exact fin
      have main : ∀ {x : AX} {f1 : Fr} {s1 : AS}, E.code floor c (frame fn.ntmps l) ⟨s.n, s.h, [], s.gl⟩ = some (x, f1, s1) → (x = .normal ∨ x = .ret) →
          (match resA P f1 s1 fn.results.toList with
            | some [v] => match isLit v && allL isLit l with
              | true => some (v, (⟨s1.n, dropNew s.n s1.h, unionW (oldW s.n s1.wr) s.wr, s1.gl⟩ : AS))
              | false => some (v, (⟨s1.n, s1.h, unionW (oldW s.n s1.wr) s.wr, s1.gl⟩ : AS))
            | some vs => match isLit (mkTup vs) && allL isLit l with
              | true => some (mkTup vs, (⟨s1.n, dropNew s.n s1.h, unionW (oldW s.n s1.wr) s.wr, s1.gl⟩ : AS))
              | false => some (mkTup vs, (⟨s1.n, s1.h, unionW (oldW s.n s1.wr) s.wr, s1.gl⟩ : AS))
            | none => none) = some (v, s') → Calls P g xs.toArray w fun e w' => ∃ R' x, e = .returned x ∧ VRel R' v x ∧ Went R R' s s' w w' floor base := by
        intro x f1 s1 he hx h
        split at h
        · rename_i u hvs
          have hu : ∀ {R' : Rho} {ys : List Value}, VRels R' [u] ys → VRel R' u (if h : ys.toArray.size = 1 then ys.toArray[0] else .tuple ys.toArray) := by
            intro R' ys hy
            simp only [VRels] at hy
            obtain ⟨y, ys', rfl, h1, rfl⟩ := hy
            simpa using h1
          split at h
          · injection h with h; injection h with h1 h2; subst h1 h2
            exact body he hx hvs (fun hg => hg.drop hI) hu
          · injection h with h; injection h with h1 h2; subst h1 h2
            exact body he hx hvs (fun hg => hg.end_ hI) hu
        · rename_i vs hne hvs
          have hu : ∀ {R' : Rho} {ys : List Value}, VRels R' vs ys → VRel R' (mkTup vs) (if h : ys.toArray.size = 1 then ys.toArray[0] else .tuple ys.toArray) := by
            intro R' ys hy
            have hl := hy.length
            rw [dif_neg]
            · exact VRel.mkTup hy
            · intro h1
              have h1 : vs.length = 1 := by simp at h1; omega
              obtain ⟨u, rfl⟩ := List.length_eq_one_iff.1 h1
              exact hne u rfl
          split at h
          · injection h with h; injection h with h1 h2; subst h1 h2
            exact body he hx hvs (fun hg => hg.drop hI) hu
          · injection h with h; injection h with h1 h2; subst h1 h2
            exact body he hx hvs (fun hg => hg.end_ hI) hu
        · cases h
      split at h
      · rename_i f1 s1 he; exact main he (.inl rfl) h
      · rename_i f1 s1 he; exact main he (.inr rfl) h
      · cases h
    · cases h
  · cases h
/-- Nothing that stood there has turned, and nothing of it was written. -/
theorem Went.far {s : AS} {w w' : World} {fl b : Nat} (hI : Inv R s w fl b) (hb : Below w.heap.size w w') : Went R R s s w w' fl b :=
  ⟨Ext.refl _, fun r _ => r, Nat.le_refl _, fun _ _ => rfl, ⟨hI.rel.below hb, Nat.le_trans hI.hb hb.size, hI.hf, hI.own, fun hg => hI.glo_below hg (hb.mono hI.hb), hI.kgl⟩, hb.mono hI.hb, fun r => .inl ⟨_, _, r⟩, fun _ h => h,
    fun _ r _ => ⟨hb.block _ (hI.rel.dom r).2, rfl⟩, fun k hk _ => hb.block k hk⟩
theorem knowCall_ok (hK : KnowOk P) {call : CallE} (hcall : CallOk P call) : CallOk P (knowCall call) := by
  intro floor g l s v s' h R w base xs hI hl
  unfold knowCall at h
  split at h
  · rename_i r hr
    injection h with h
    injection h with h1 h2
    subst h1 h2
    obtain ⟨h3, h4⟩ := findC_ok hr
    obtain ⟨h5, h6⟩ := hK.call _ _ _ h3
    rw [mapL_eq] at h3 h4
    rw [mapL_eq] at h6
    exact (h6 w xs hI.globs (flats_ok hI h4 hl)).mono fun e w' ⟨he, hb⟩ => ⟨R, gval r, he, ground_ok h5, Went.far hI hb⟩
  · exact hcall h hI hl
theorem ev_ok (hK : KnowOk P) (hm : P.follows .mixedOrders = true) : ∀ n, EvOk P (ev P n)
  | 0 => ⟨fun h => (by cases h), fun h => (by cases h), fun h => (by cases h), fun h => (by cases h)⟩
  | n + 1 =>
    have hE := ev_ok hK hm n
    ⟨codeStep_ok hK hE hm, loopStep_ok hE, scopeStep_ok hE, knowCall_ok hK (callStep_ok hE)⟩
theorem inv0 {w : World} (hg : Globs Env.gl w) : Inv (fun _ _ _ => False) ⟨0, [], [], Env.gl⟩ w 0 w.heap.size :=
  ⟨⟨fun h => h.elim, fun h => h.elim, (fun h => by cases h), (fun h => by cases h)⟩, Nat.le_refl _, Nat.le_refl _, fun h => h.elim, fun h => hg _ _ h, rfl⟩
/-- A RUN WITH LETTERS: what the kernel reckons is what the call comes to, in whatever memory that holds the variables, if the tables are right. -/
theorem sym_ok (hK : KnowOk P) (hm : P.follows .mixedOrders = true) {n : Nat} {g : FuncId} {l : List AV} {v : AV} (h : comes P Env.gl n g l = some v) (hl : l.all ground = true) (hv : ground v = true) {w : World} (hg : Globs Env.gl w) :
    Calls P g (l.map gval).toArray w fun e w' => e = .returned (gval v) ∧ Below w.heap.size w w' := by
  unfold comes at h
  split at h
  · rename_i u s he
    injection h with h
    subst h
    exact ((ev_ok hK hm n).call he (inv0 hg) (grounds_ok hl)).mono fun e w' ⟨R', x, he, hx, hg⟩ => ⟨by rw [he, VRel.uniq hv hx], hg.below⟩
  · cases h
theorem lit_ok (hK : KnowOk P) (hm : P.follows .mixedOrders = true) {n : Nat} {g : FuncId} {l : List Value} {v : Value} {s : AS} (h : (ev P n).call 0 g (l.map .lit) ⟨0, [], [], Env.gl⟩ = some (.lit v, s)) {w : World} (hg : Globs Env.gl w) :
    Calls P g l.toArray w fun e w' => e = .returned v ∧ Below w.heap.size w w' :=
  ((ev_ok hK hm n).call h (inv0 hg) (VRels.lits_ l)).mono fun e w' ⟨R', x, he, hx, hg⟩ => ⟨by rw [he, lit_inv hx], hg.below⟩
end
section
variable {P : Program}
theorem Globs.nil (w : World) : Globs [] w := fun _ _ h => by cases h
@[reducible] noncomputable def noEnv (gl : List (Nat × List AV)) : Env := ⟨fun _ => .int .i64 0, fun _ => rfl, gl⟩
theorem noKnow_ok (gl : List (Nat × List AV)) : @KnowOk (noEnv gl) noKnow P := @KnowOk.mk (noEnv gl) noKnow P (fun _ _ _ h => by cases h) (fun _ _ _ h => by cases h)
/-- A CLOSED RUN: what the kernel reckons is what the call comes to, in whatever memory, whatever the tape. -/
theorem closed_ok (hm : P.follows .mixedOrders = true) {n : Nat} {g : FuncId} {l : List Value} {v : Value} {s : AS} {gl : List (Nat × List AV)} (h : (@ev noKnow P n).call 0 g (mapL .lit l) ⟨0, [], [], gl⟩ = some (.lit v, s)) {w : World} (hg : Globs gl w) :
    Calls P g l.toArray w fun e w' => e = .returned v ∧ Below w.heap.size w w' := by
  rw [mapL_eq] at h
  exact @lit_ok (noEnv gl) noKnow P (noKnow_ok gl) hm n g l v s h w hg
theorem closed_with (hm : P.follows .mixedOrders = true) {gl : List (Nat × List AV)} {n : Nat} {g : FuncId} {l : List Value} {b : Bool} (h : saysG P gl n g l b = true) {w : World} (hg : Globs gl w) :
    Calls P g l.toArray w fun e w' => e = .returned (.bool b) ∧ Below w.heap.size w w' := by
  unfold saysG at h
  split at h
  · rename_i c s he
    have e : c = b := by simpa using h
    subst e
    exact closed_ok hm he hg
  · cases h
theorem closed_bool (hm : P.follows .mixedOrders = true) {n : Nat} {g : FuncId} {b : Bool} (h : saysB P n g b = true) (w : World) :
    Calls P g #[] w fun e w' => e = .returned (.bool b) ∧ Below w.heap.size w w' := closed_with hm (l := []) h (Globs.nil w)
end
end Go.Proofs.YtajcapliokblfaaDoor
set_option linter.unusedSimpArgs false
set_option linter.unusedVariables false
namespace Go.Proofs.YtajcapliokblfaaDoor
open Go Go.RowKit

theorem size_of_cell {w : World} {b o : Nat} {v : Value} (h : w.cell? ⟨b, o, none⟩ = some v) : b < w.heap.size := by
  unfold World.cell? at h
  cases hb : w.heap[b]? with
  | none => simp [hb] at h
  | some x => exact (Array.getElem?_eq_some_iff.1 hb).1
theorem gDe : Tryd.prog.globalNamed "math/bits.deBruijn64tab" = some 4 := by kernel_rfl
theorem gDeType : (Tryd.prog.globals[4]?).map (·.type) = some 134 := by kernel_rfl
theorem cDe : Tryd.prog.cellsOf 134 = 64 := by kernel_rfl
theorem cU8 : Tryd.prog.cellsOf 5 = 1 := by kernel_rfl
def glT : List (Nat × List AV) := [(4, Lib.deBruijn64tab.map fun (x : Nat) => AV.lit (.int .u8 (x : Nat)))]
theorem globs_of {W : World} {laid : List (String × DataW Unit)} (hl : laid.filter (fun x => x.1 == "math/bits.deBruijn64tab") = [("math/bits.deBruijn64tab", Rows.laid_math_bits_deBruijn64tab)]) (hL : laidMetH Tryd.prog laid W) : Globs glT W := by
  have h := hL.filter (fun x => x.1 == "math/bits.deBruijn64tab")
  rw [hl] at h
  have h1 : Lib.TabIs Tryd.prog W "math/bits.deBruijn64tab" .u8 (Lib.deBruijn64tab.map Int.ofNat) := Lib.tabIs_of_head (rest := []) gDe gDeType Tryd.underlying134 Tryd.underlying5 cU8 cDe h
  have hlen : Lib.deBruijn64tab.length = 64 := by decide
  have c1 : ∀ j, j < 64 → W.cell? ⟨4, j, none⟩ = some (.int .u8 ((Lib.deBruijn64tab.getD j 0 : Nat) : Int)) := fun j hj => by
    have := h1.cell gDe j (by rw [List.length_map, hlen]; exact hj)
    rw [this]; simp [List.getD]
    cases Lib.deBruijn64tab[j]? <;> rfl
  intro g B hB
  unfold glT at hB
  rw [look_cons] at hB
  split at hB
  · rename_i e
    injection hB with hB
    have e : 4 = g := e
    subst e hB
    refine ⟨size_of_cell (c1 0 (by decide)), fun i v hv => ?_⟩
    have hi : i < 64 := by
      have := (List.getElem?_eq_some_iff.1 hv).1
      rw [List.length_map, hlen] at this; exact this
    rw [List.getElem?_map] at hv
    cases hx : Lib.deBruijn64tab[i]? with
    | none => rw [hx] at hv; cases hv
    | some x =>
      rw [hx] at hv
      injection hv with hv
      refine ⟨_, hv.symm, ?_⟩
      rw [c1 i hi]
      simp [List.getD, hx]
  · cases hB
end Go.Proofs.YtajcapliokblfaaDoor
set_option linter.unusedSimpArgs false
set_option linter.unusedVariables false
namespace Nt

/-- How many digits n has to the base b. -/
def nd (b n : Nat) : Nat := if h : n = 0 ∨ b ≤ 1 then 0 else nd b (n / b) + 1
termination_by n
decreasing_by exact Nat.div_lt_self (by omega) (by omega)
theorem nd_zero (b : Nat) : nd b 0 = 0 := by unfold nd; simp
theorem nd_step {b n : Nat} (hb : 2 ≤ b) (hn : n ≠ 0) : nd b n = nd b (n / b) + 1 := by
  rw [nd, dif_neg (by omega)]
theorem lt_pow_iff {b : Nat} (hb : 2 ≤ b) : ∀ (k n : Nat), n < b ^ k ↔ nd b n ≤ k := by
  intro k
  induction k with
  | zero =>
    intro n
    rw [Nat.pow_zero]
    constructor
    · intro h; have : n = 0 := by omega
      subst this; rw [nd_zero]; exact Nat.le_refl _
    · intro h
      rcases Nat.eq_zero_or_pos n with h0 | h0
      · omega
      · rw [nd_step hb (by omega)] at h; omega
  | succ k ih =>
    intro n
    rcases Nat.eq_zero_or_pos n with h0 | h0
    · subst h0; rw [nd_zero]
      exact ⟨fun _ => by omega, fun _ => Nat.pow_pos (by omega)⟩
    · rw [nd_step hb (by omega), Nat.pow_succ]
      have e := ih (n / b)
      rw [Nat.div_lt_iff_lt_mul (by omega)] at e
      rw [e]; omega
theorem nd_le {b n k : Nat} (hb : 2 ≤ b) (h : n < b ^ k) : nd b n ≤ k := (lt_pow_iff hb k n).1 h
theorem lt_nd {b n : Nat} (hb : 2 ≤ b) : n < b ^ nd b n := (lt_pow_iff hb _ _).2 (Nat.le_refl _)
theorem pow_le_iff {b : Nat} (hb : 2 ≤ b) (k n : Nat) : b ^ k ≤ n ↔ k < nd b n := by
  have := lt_pow_iff hb k n; omega
theorem nd_eq_zero {b n : Nat} (hb : 2 ≤ b) : nd b n = 0 ↔ n = 0 := by
  constructor
  · intro h; have := (lt_pow_iff hb 0 n).2 (by omega); simpa using this
  · rintro rfl; exact nd_zero _
theorem nd_mono {b m n : Nat} (hb : 2 ≤ b) (h : m ≤ n) : nd b m ≤ nd b n := nd_le hb (Nat.lt_of_le_of_lt h (lt_nd hb))
theorem nd_pow {b c e : Nat} (hb : 2 ≤ b) (he : 0 < e) (hc : c = b ^ e) (n k : Nat) : nd b n ≤ e * k ↔ nd c n ≤ k := by
  have hc2 : 2 ≤ c := by
    subst hc; obtain ⟨f, rfl⟩ : ∃ f, e = f + 1 := ⟨e - 1, by omega⟩
    rw [Nat.pow_succ]; have := Nat.pow_pos (n := f) (show 0 < b by omega); exact Nat.le_trans hb (Nat.le_mul_of_pos_left _ this)
  rw [← lt_pow_iff hb, ← lt_pow_iff hc2, hc, Nat.pow_mul]

/-- The digit i of n to the base b. -/
@[irreducible] def dgt (b n i : Nat) : Nat := n / b ^ i % b
theorem dgt_def (b n i : Nat) : dgt b n i = n / b ^ i % b := by unfold dgt; rfl
theorem dgt_lt {b : Nat} (hb : 0 < b) (n i : Nat) : dgt b n i < b := by rw [dgt_def]; exact Nat.mod_lt _ hb
theorem mod_succ (b n i : Nat) : n % b ^ (i + 1) = n % b ^ i + b ^ i * dgt b n i := by rw [dgt_def]; exact Nat.mod_pow_succ
theorem dgt_big {b n i : Nat} (hb : 2 ≤ b) (h : nd b n ≤ i) : dgt b n i = 0 := by
  rw [dgt_def, Nat.div_eq_of_lt ((lt_pow_iff hb i n).2 h), Nat.zero_mod]
theorem dgt_top {b n : Nat} (hb : 2 ≤ b) (h : n ≠ 0) : dgt b n (nd b n - 1) ≠ 0 := by
  have h0 : nd b n ≠ 0 := fun c => h ((nd_eq_zero hb).1 c)
  have h1 : b ^ (nd b n - 1) ≤ n := (pow_le_iff hb _ _).2 (by omega)
  have h2 := lt_nd (b := b) (n := n) hb
  rw [dgt_def]
  have e : b ^ nd b n = b ^ (nd b n - 1) * b := by rw [← Nat.pow_succ]; congr 1; omega
  have h3 : n / b ^ (nd b n - 1) < b := by
    rw [Nat.div_lt_iff_lt_mul (Nat.pow_pos (by omega)), Nat.mul_comm, ← e]; exact h2
  have h4 : 1 ≤ n / b ^ (nd b n - 1) := (Nat.le_div_iff_mul_le (Nat.pow_pos (by omega))).2 (by omega)
  rw [Nat.mod_eq_of_lt h3]; omega
theorem div_eq_dgt {b : Nat} (hb : 0 < b) (n i : Nat) : n / b ^ i = dgt b n i + b * (n / b ^ (i + 1)) := by
  rw [dgt_def, Nat.pow_succ, ← Nat.div_div_eq_div_mul]; exact (Nat.mod_add_div _ _).symm
theorem mod_eq_of_digits {b : Nat} (n m : Nat) : ∀ L, (∀ i, i < L → dgt b n i = dgt b m i) → n % b ^ L = m % b ^ L := by
  intro L
  induction L with
  | zero => intro _; simp [Nat.mod_one]
  | succ L ih =>
    intro h
    rw [mod_succ, mod_succ, ih (fun i hi => h i (by omega)), h L (by omega)]
theorem dgt_mod {b : Nat} (n : Nat) {i L : Nat} (h : i < L) : dgt b (n % b ^ L) i = dgt b n i := by
  rw [dgt_def, dgt_def]
  obtain ⟨d, rfl⟩ : ∃ d, L = i + 1 + d := ⟨L - i - 1, by omega⟩
  rw [show b ^ (i + 1 + d) = b ^ i * (b * b ^ d) by rw [Nat.pow_add, Nat.pow_succ, Nat.mul_assoc], Nat.mod_mul_right_div_self, Nat.mod_mul_right_mod]
theorem dgt_add_mul {b : Nat} (hb : 0 < b) (n m : Nat) {i L : Nat} (h : i < L) : dgt b (n + b ^ L * m) i = dgt b n i := by
  rw [← dgt_mod (n + b ^ L * m) h, Nat.add_mul_mod_self_left, dgt_mod n h]
theorem dgt_of_lt {b n i L : Nat} (hb : 2 ≤ b) (h : n < b ^ L) (hi : L ≤ i) : dgt b n i = 0 := dgt_big hb (Nat.le_trans (nd_le hb h) hi)
theorem dgt_shift {b : Nat} (hb : 0 < b) (n m L i : Nat) (hn : n < b ^ L) (h : L ≤ i) : dgt b (n + b ^ L * m) i = dgt b m (i - L) := by
  rw [dgt_def, dgt_def]
  obtain ⟨d, rfl⟩ : ∃ d, i = L + d := ⟨i - L, by omega⟩
  rw [Nat.pow_add, ← Nat.div_div_eq_div_mul, Nat.add_mul_div_left _ _ (Nat.pow_pos hb), Nat.div_eq_of_lt hn, Nat.zero_add]; congr 3; omega
/-- The number with another digit at the place i. -/
def put (b n i v : Nat) : Nat := n % b ^ i + b ^ i * (v + b * (n / b ^ (i + 1)))
theorem dgt_put {b : Nat} (hb : 2 ≤ b) (n i v j : Nat) (hv : v < b) : dgt b (put b n i v) j = if j = i then v else dgt b n j := by
  unfold put
  have hp : n % b ^ i < b ^ i := Nat.mod_lt _ (Nat.pow_pos (by omega))
  by_cases h : j = i
  · subst h; rw [if_pos rfl, dgt_shift (by omega) _ _ _ _ hp (Nat.le_refl _), dgt_def, Nat.sub_self, Nat.pow_zero, Nat.div_one, Nat.add_mul_mod_self_left, Nat.mod_eq_of_lt hv]
  · rw [if_neg h]
    by_cases h1 : j < i
    · rw [dgt_add_mul (by omega) _ _ h1, dgt_mod _ h1]
    · rw [dgt_shift (by omega) _ _ _ _ hp (by omega)]
      have e := dgt_shift (b := b) (by omega) v (n / b ^ (i + 1)) 1 (j - i) (by rw [Nat.pow_one]; exact hv) (by omega)
      rw [Nat.pow_one] at e
      rw [e, dgt_def, dgt_def, Nat.div_div_eq_div_mul, ← Nat.pow_add]; congr 3; omega
/-- The L lowest digits. -/
def dl (b n L : Nat) : List Nat := (List.range L).map (dgt b n)
theorem dl_length (b n L : Nat) : (dl b n L).length = L := by simp [dl]
theorem dl_get? (b n L i : Nat) (h : i < L) : (dl b n L)[i]? = some (dgt b n i) := by
  unfold dl; rw [List.getElem?_map, List.getElem?_range h]; rfl
theorem dl_succ (b n L : Nat) : dl b n (L + 1) = dl b n L ++ [dgt b n L] := by simp [dl, List.range_succ]
theorem dl_congr {b n m L : Nat} (h : ∀ i, i < L → dgt b n i = dgt b m i) : dl b n L = dl b m L := by
  unfold dl; apply List.map_congr_left; intro i hi; exact h i (List.mem_range.1 hi)
theorem dl_set {b : Nat} (hb : 2 ≤ b) (n L i v : Nat) (hv : v < b) : (dl b n L).set i v = dl b (put b n i v) L := by
  apply List.ext_getElem?
  intro j
  rw [List.getElem?_set]
  by_cases hj : j < L
  · rw [dl_get? b (put b n i v) L j hj, dgt_put hb n i v j hv]
    by_cases h : j = i
    · subst h; rw [if_pos rfl, if_pos (by rw [dl_length]; exact hj), if_pos rfl]
    · rw [if_neg (fun c => h c.symm), if_neg h, dl_get? b n L j hj]
  · rw [List.getElem?_eq_none (l := dl b (put b n i v) L) (by rw [dl_length]; omega)]
    by_cases h : i = j
    · subst h; rw [if_pos rfl, if_neg (by rw [dl_length]; omega)]
    · rw [if_neg h, List.getElem?_eq_none (by rw [dl_length]; omega)]
theorem dl_mod (b n L : Nat) : dl b (n % b ^ L) L = dl b n L := dl_congr fun _ hi => dgt_mod _ hi
/-- The number of these digits, the lowest first. -/
def of (b : Nat) (l : List Nat) : Nat := l.foldr (fun x a => x + b * a) 0
theorem of_nil (b : Nat) : of b [] = 0 := rfl
theorem of_cons (b x : Nat) (l : List Nat) : of b (x :: l) = x + b * of b l := rfl
theorem of_append (b : Nat) (l m : List Nat) : of b (l ++ m) = of b l + b ^ l.length * of b m := by
  induction l with
  | nil => simp [of_nil]
  | cons x l ih => rw [List.cons_append, of_cons, of_cons, ih, List.length_cons, Nat.pow_succ, Nat.mul_add, Nat.add_assoc, ← Nat.mul_assoc, Nat.mul_comm b (b ^ l.length)]
theorem of_lt {b : Nat} (hb : 0 < b) (l : List Nat) (h : ∀ x ∈ l, x < b) : of b l < b ^ l.length := by
  induction l with
  | nil => simp [of_nil]
  | cons x l ih =>
    have h1 := ih (fun y hy => h y (List.mem_cons_of_mem _ hy))
    have h2 := h x (List.mem_cons_self ..)
    rw [of_cons, List.length_cons, Nat.pow_succ]
    have : b * (of b l + 1) ≤ b ^ l.length * b := by rw [Nat.mul_comm]; exact Nat.mul_le_mul_right _ h1
    rw [Nat.mul_add] at this; omega
theorem of_dl (b n L : Nat) : of b (dl b n L) = n % b ^ L := by
  induction L with
  | zero => simp [dl, of_nil, Nat.mod_one]
  | succ L ih => rw [dl_succ, of_append, ih, dl_length, mod_succ]; simp [of_cons, of_nil]
theorem dgt_of {b : Nat} (hb : 2 ≤ b) (l : List Nat) (h : ∀ x ∈ l, x < b) (i : Nat) (hi : i < l.length) : dgt b (of b l) i = l[i] := by
  have e : l = l.take i ++ l[i] :: l.drop (i + 1) := by rw [List.getElem_cons_drop, List.take_append_drop]
  have hl : (l.take i).length = i := by simp; omega
  have h1 : of b (l.take i) < b ^ i := by
    have := of_lt (b := b) (by omega) (l.take i) (fun x hx => h x (List.mem_of_mem_take hx)); rwa [hl] at this
  have h2 : of b l = of b (l.take i) + b ^ i * (l[i] + b * of b (l.drop (i + 1))) := by
    conv => lhs; rw [e]
    rw [of_append, of_cons, hl]
  rw [h2, dgt_shift (by omega) _ _ _ _ h1 (Nat.le_refl _), dgt_def, Nat.sub_self, Nat.pow_zero, Nat.div_one, Nat.add_mul_mod_self_left, Nat.mod_eq_of_lt (h _ (List.getElem_mem hi))]
theorem dl_of {b : Nat} (hb : 2 ≤ b) (l : List Nat) (h : ∀ x ∈ l, x < b) : dl b (of b l) l.length = l := by
  apply List.ext_getElem
  · rw [dl_length]
  · intro i h1 h2
    have := dl_get? b (of b l) l.length i h2
    rw [List.getElem?_eq_getElem h1] at this
    rw [Option.some.inj this, dgt_of hb l h i h2]
theorem eq_of_digits {b n m L : Nat} (hn : n < b ^ L) (hm : m < b ^ L) (h : ∀ i, i < L → dgt b n i = dgt b m i) : n = m := by
  have := mod_eq_of_digits n m L h
  rwa [Nat.mod_eq_of_lt hn, Nat.mod_eq_of_lt hm] at this

/-! Sums, differences. -/
/-- What is carried to the place i. -/
@[irreducible] def car (b x y i : Nat) : Nat := (x % b ^ i + y % b ^ i) / b ^ i
theorem car_def (b x y i : Nat) : car b x y i = (x % b ^ i + y % b ^ i) / b ^ i := by unfold car; rfl
theorem car_zero (b x y : Nat) : car b x y 0 = 0 := by rw [car_def]; simp [Nat.mod_one]
theorem car_le {b : Nat} (hb : 0 < b) (x y i : Nat) : car b x y i ≤ 1 := by
  rw [car_def]
  have h1 : x % b ^ i < b ^ i := Nat.mod_lt _ (Nat.pow_pos hb)
  have h2 : y % b ^ i < b ^ i := Nat.mod_lt _ (Nat.pow_pos hb)
  have : (x % b ^ i + y % b ^ i) / b ^ i < 2 := by rw [Nat.div_lt_iff_lt_mul (Nat.pow_pos hb)]; omega
  omega
theorem car_succ {b : Nat} (hb : 0 < b) (x y i : Nat) : car b x y (i + 1) = (dgt b x i + dgt b y i + car b x y i) / b := by
  rw [car_def, car_def, mod_succ, mod_succ]
  have e : x % b ^ i + b ^ i * dgt b x i + (y % b ^ i + b ^ i * dgt b y i) = (x % b ^ i + y % b ^ i) + b ^ i * (dgt b x i + dgt b y i) := by rw [Nat.mul_add]; omega
  rw [e, Nat.pow_succ, ← Nat.div_div_eq_div_mul, Nat.add_mul_div_left _ _ (Nat.pow_pos hb)]; congr 1; omega
theorem dgt_add {b : Nat} (hb : 0 < b) (x y i : Nat) : dgt b (x + y) i = (dgt b x i + dgt b y i + car b x y i) % b := by
  have e : x + y = (x % b ^ i + y % b ^ i) + b ^ i * (x / b ^ i + y / b ^ i) := by
    have h1 := Nat.mod_add_div x (b ^ i); have h2 := Nat.mod_add_div y (b ^ i); rw [Nat.mul_add]; omega
  rw [dgt_def, e, Nat.add_mul_div_left _ _ (Nat.pow_pos hb), car_def, dgt_def, dgt_def]
  rw [Nat.add_comm]
  simp [Nat.add_mod]
theorem car_last {b : Nat} (hb : 2 ≤ b) (x y L : Nat) (hx : x < b ^ L) (hy : y < b ^ L) : car b x y L = dgt b (x + y) L := by
  rw [dgt_add (by omega), dgt_of_lt hb hx (Nat.le_refl _), dgt_of_lt hb hy (Nat.le_refl _), Nat.zero_add, Nat.mod_eq_of_lt]
  have := car_le (b := b) (by omega) x y L; omega
/-- What is borrowed at the place i. -/
@[irreducible] def bor (b x y i : Nat) : Nat := if x % b ^ i < y % b ^ i then 1 else 0
theorem bor_def (b x y i : Nat) : bor b x y i = if x % b ^ i < y % b ^ i then 1 else 0 := by unfold bor; rfl
theorem bor_zero (b x y : Nat) : bor b x y 0 = 0 := by rw [bor_def]; simp [Nat.mod_one]
theorem bor_le (b x y i : Nat) : bor b x y i ≤ 1 := by rw [bor_def]; split <;> omega
theorem bor_succ {b : Nat} (hb : 0 < b) (x y i : Nat) : bor b x y (i + 1) = if dgt b x i < dgt b y i + bor b x y i then 1 else 0 := by
  have h1 : x % b ^ i < b ^ i := Nat.mod_lt _ (Nat.pow_pos hb)
  have h2 : y % b ^ i < b ^ i := Nat.mod_lt _ (Nat.pow_pos hb)
  rw [bor_def, mod_succ, mod_succ]
  have hbi := bor_def b x y i
  generalize x % b ^ i = p at *
  generalize y % b ^ i = q at *
  rcases Nat.lt_trichotomy (dgt b x i) (dgt b y i) with h | h | h
  · have := Nat.mul_le_mul_left (b ^ i) h
    rw [Nat.mul_succ] at this
    rw [if_pos (by omega), if_pos (by omega)]
  · rw [h, hbi]
    by_cases h3 : p < q
    · rw [if_pos h3, if_pos (by omega), if_pos (by omega)]
    · rw [if_neg h3, if_neg (by omega), if_neg (by omega)]
  · have := Nat.mul_le_mul_left (b ^ i) h
    rw [Nat.mul_succ] at this
    have h4 := bor_le b x y i
    rw [if_neg (by omega), if_neg (by omega)]
theorem dgt_sub {b : Nat} (hb : 2 ≤ b) (x y i : Nat) (h : y ≤ x) : dgt b (x - y) i = (dgt b x i + b - dgt b y i - bor b x y i) % b := by
  obtain ⟨z, rfl⟩ : ∃ z, x = y + z := ⟨x - y, by omega⟩
  rw [Nat.add_sub_cancel_left, dgt_add (by omega)]
  have hc : bor b (y + z) y i = car b y z i := by
    rw [bor_def, car_def]
    have h1 : y % b ^ i < b ^ i := Nat.mod_lt _ (Nat.pow_pos (by omega))
    have h2 : z % b ^ i < b ^ i := Nat.mod_lt _ (Nat.pow_pos (by omega))
    rw [Nat.add_mod]
    generalize y % b ^ i = p at *
    generalize z % b ^ i = q at *
    by_cases h3 : p + q < b ^ i
    · rw [Nat.mod_eq_of_lt h3, Nat.div_eq_of_lt h3, if_neg (by omega)]
    · have e : (p + q) % b ^ i = p + q - b ^ i := by rw [Nat.mod_eq_sub_mod (by omega), Nat.mod_eq_of_lt (by omega)]
      have e2 : (p + q) / b ^ i = 1 := by
        rw [Nat.div_eq_of_lt_le] <;> omega
      rw [e, e2, if_pos (by omega)]
  rw [hc]
  have h1 := dgt_lt (b := b) (by omega) y i
  have h2 := dgt_lt (b := b) (by omega) z i
  have h3 := car_le (b := b) (by omega) y z i
  by_cases h4 : dgt b y i + dgt b z i + car b y z i < b
  · rw [Nat.mod_eq_of_lt h4]
    rw [show dgt b y i + dgt b z i + car b y z i + b - dgt b y i - car b y z i = dgt b z i + b by omega, Nat.add_mod_right, Nat.mod_eq_of_lt h2]
  · have e : (dgt b y i + dgt b z i + car b y z i) % b = dgt b y i + dgt b z i + car b y z i - b := by rw [Nat.mod_eq_sub_mod (by omega), Nat.mod_eq_of_lt (by omega)]
    rw [e, show dgt b y i + dgt b z i + car b y z i - b + b - dgt b y i - car b y z i = dgt b z i by omega, Nat.mod_eq_of_lt h2]
theorem bor_last {b : Nat} (hb : 2 ≤ b) (x y L : Nat) (hx : x < b ^ L) (hy : y < b ^ L) : bor b x y L = if x < y then 1 else 0 := by
  rw [bor_def, Nat.mod_eq_of_lt hx, Nat.mod_eq_of_lt hy]
end Nt
set_option linter.unusedSimpArgs false
set_option linter.unusedVariables false
namespace Nt

theorem put_eq {b : Nat} (n i v : Nat) (hb : 0 < b) : put b n i v + b ^ i * dgt b n i = n + b ^ i * v := by
  have h := Nat.mod_add_div n (b ^ i)
  rw [div_eq_dgt hb, Nat.mul_add] at h
  unfold put
  rw [Nat.mul_add]; omega
theorem put_lt {b : Nat} (hb : 2 ≤ b) {n i v L : Nat} (hv : v < b) (hn : n < b ^ L) (hi : i < L) : put b n i v < b ^ L := by
  have hp : 0 < b ^ L := Nat.pow_pos (by omega)
  have : put b n i v % b ^ L = put b n i v := by
    unfold put
    obtain ⟨d, rfl⟩ : ∃ d, L = i + (1 + d) := ⟨L - i - 1, by omega⟩
    apply Nat.mod_eq_of_lt
    have h1 : n % b ^ i < b ^ i := Nat.mod_lt _ (Nat.pow_pos (by omega))
    have h2 : n / b ^ (i + 1) < b ^ d := by
      rw [Nat.div_lt_iff_lt_mul (Nat.pow_pos (by omega)), ← Nat.pow_add]; rwa [show d + (i + 1) = i + (1 + d) by omega]
    have e1 : b ^ (i + (1 + d)) = b ^ i * (b * b ^ d) := by rw [Nat.pow_add, Nat.pow_add, Nat.pow_one]
    rw [e1]
    generalize n / b ^ (i + 1) = q at *
    generalize n % b ^ i = p at *
    generalize b ^ d = s at *
    generalize b ^ i = t at *
    have h3 : v + b * q < b * s := by
      have : b * (q + 1) ≤ b * s := Nat.mul_le_mul_left _ h2
      rw [Nat.mul_add] at this; omega
    have h4 : t * (v + b * q + 1) ≤ t * (b * s) := Nat.mul_le_mul_left _ h3
    rw [Nat.mul_add _ _ 1] at h4; omega
  rw [← this]; exact Nat.mod_lt _ hp
theorem put_new {b : Nat} (n i v : Nat) (hb : 0 < b) (h : dgt b n i = 0) : put b n i v = n + b ^ i * v := by
  have := put_eq n i v hb; rw [h] at this; omega
theorem mod_lt_pow {b : Nat} (hb : 0 < b) (n i : Nat) : n % b ^ i < b ^ i := Nat.mod_lt _ (Nat.pow_pos hb)
theorem dgt_mod_ge {b : Nat} (hb : 2 ≤ b) (n i : Nat) : dgt b (n % b ^ i) i = 0 := dgt_of_lt hb (mod_lt_pow (by omega) n i) (Nat.le_refl _)
theorem put_mod {b : Nat} (hb : 2 ≤ b) (n i : Nat) : put b (n % b ^ i) i (dgt b n i) = n % b ^ (i + 1) := by
  rw [put_new _ _ _ (by omega) (dgt_mod_ge hb n i), mod_succ]

/-! A number times a digit, and one more. -/
@[irreducible] def mca (b x y m i : Nat) : Nat := (x % b ^ i * y + m) / b ^ i
theorem mca_def (b x y m i : Nat) : mca b x y m i = (x % b ^ i * y + m) / b ^ i := by unfold mca; rfl
theorem mca_zero (b x y m : Nat) : mca b x y m 0 = m := by rw [mca_def]; simp [Nat.mod_one]
theorem mca_succ {b : Nat} (hb : 0 < b) (x y m i : Nat) : mca b x y m (i + 1) = (dgt b x i * y + mca b x y m i) / b := by
  rw [mca_def, mca_def, mod_succ, Nat.add_mul, Nat.pow_succ, ← Nat.div_div_eq_div_mul]
  rw [show x % b ^ i * y + b ^ i * dgt b x i * y + m = (x % b ^ i * y + m) + b ^ i * (dgt b x i * y) by rw [Nat.mul_assoc]; omega, Nat.add_mul_div_left _ _ (Nat.pow_pos hb)]
  congr 1; omega
theorem mca_lt {b : Nat} (hb : 0 < b) (x y m i : Nat) (hy : y < b) (hm : m < b) : mca b x y m i < b := by
  rw [mca_def, Nat.div_lt_iff_lt_mul (Nat.pow_pos hb)]
  have h1 := mod_lt_pow hb x i
  have h2 : x % b ^ i * y ≤ x % b ^ i * (b - 1) := Nat.mul_le_mul_left _ (by omega)
  have h3 : (x % b ^ i + 1) * (b - 1) ≤ b ^ i * (b - 1) := Nat.mul_le_mul_right _ h1
  rw [Nat.add_mul, Nat.one_mul] at h3
  have h4 : b ^ i * (b - 1) + b ^ i = b * b ^ i := by
    rw [Nat.mul_comm b, ← Nat.mul_succ]; congr 1; omega
  have := Nat.pow_pos (n := i) hb
  omega
theorem dgt_mca {b : Nat} (hb : 0 < b) (x y m i : Nat) : dgt b (x * y + m) i = (dgt b x i * y + mca b x y m i) % b := by
  have e : x * y + m = (x % b ^ i * y + m) + b ^ i * (x / b ^ i * y) := by
    have h1 := Nat.mod_add_div x (b ^ i)
    have h2 : x * y = (x % b ^ i + b ^ i * (x / b ^ i)) * y := by rw [h1]
    rw [h2, Nat.add_mul, Nat.mul_assoc]; omega
  rw [dgt_def, e, Nat.add_mul_div_left _ _ (Nat.pow_pos hb), mca_def, dgt_def]
  rw [Nat.add_comm]
  simp [Nat.add_mod, Nat.mul_mod]
theorem mca_last {b : Nat} (hb : 2 ≤ b) (x y m L : Nat) (hx : x < b ^ L) (hy : y < b) (hm : m < b) : mca b x y m L = dgt b (x * y + m) L := by
  rw [dgt_mca (by omega), dgt_of_lt hb hx (Nat.le_refl _), Nat.zero_mul, Nat.zero_add, Nat.mod_eq_of_lt (mca_lt (by omega) _ _ _ _ hy hm)]
/-- Two halves of a product and a number more. -/
theorem two_mod (b p m : Nat) : (p % b + m) % b = (p + m) % b := by simp [Nat.add_mod]
theorem two_div {b : Nat} (hb : 0 < b) (p m : Nat) : p / b + (p % b + m) / b = (p + m) / b := by
  have h := Nat.mod_add_div p b
  have : p + m = (p % b + m) + b * (p / b) := by omega
  rw [this, Nat.add_mul_div_left _ _ hb]; omega
theorem prod_lt {b w v : Nat} (hw : w < b) (hv : v < b) : w * v + b + b ≤ b * b + 1 := by
  have h1 : (w + 1) * (v + 1) ≤ b * b := Nat.mul_le_mul hw hv
  have h2 : w * v ≤ (b - 1) * (b - 1) := Nat.mul_le_mul (by omega) (by omega)
  have h3 : (b - 1) * (b - 1) + (b - 1) = (b - 1) * b := by rw [← Nat.mul_succ]; congr 1; omega
  have h4 : (b - 1) * b + b = b * b := by rw [← Nat.succ_mul]; congr 1; omega
  omega

/-! Division by one digit. -/
theorem take_rest {b : Nat} (hb : 0 < b) (x y i : Nat) : ((x / b ^ (i + 1)) % y * b + dgt b x i) % y = x / b ^ i % y := by
  rw [div_eq_dgt hb x i]
  rw [Nat.add_comm, Nat.mul_comm b]
  simp [Nat.add_mod, Nat.mul_mod]
theorem take_quo {b : Nat} (hb : 0 < b) (x y i : Nat) (hy : 0 < y) : ((x / b ^ (i + 1)) % y * b + dgt b x i) / y = dgt b (x / y) i := by
  have h1 := dgt_lt hb x i
  have h2 : x / b ^ (i + 1) % y < y := Nat.mod_lt _ hy
  rw [dgt_def b (x / y), Nat.div_div_eq_div_mul, Nat.mul_comm y, ← Nat.div_div_eq_div_mul, div_eq_dgt hb x i]
  have h3 := Nat.mod_add_div (x / b ^ (i + 1)) y
  generalize x / b ^ (i + 1) = X at *
  generalize dgt b x i = d at *
  have e : d + b * X = (X % y * b + d) + y * (b * (X / y)) := by
    have : b * X = b * (X % y + y * (X / y)) := by rw [h3]
    rw [this, Nat.mul_add, Nat.mul_left_comm, Nat.mul_comm b (X % y)]; omega
  have h4 : (X % y * b + d) / y < b := by
    rw [Nat.div_lt_iff_lt_mul hy]
    have : (X % y + 1) * b ≤ y * b := Nat.mul_le_mul_right _ h2
    rw [Nat.add_mul] at this; rw [Nat.mul_comm b y]; omega
  rw [e, Nat.add_mul_div_left _ _ hy, Nat.add_mul_mod_self_left, Nat.mod_eq_of_lt h4]

/-! Shifts: the base is two to the power e. -/
theorem pow_pow (e i : Nat) : (2 ^ e) ^ i = 2 ^ (e * i) := (Nat.pow_mul ..).symm
theorem dgt_shr {e : Nat} (x s i : Nat) (hs : s ≤ e) : dgt (2 ^ e) (x / 2 ^ s) i = dgt (2 ^ e) x i / 2 ^ s + dgt (2 ^ e) x (i + 1) * 2 ^ (e - s) % 2 ^ e := by
  have hb : 0 < 2 ^ e := Nat.two_pow_pos e
  have h1 := dgt_lt hb x i
  have h2 := div_eq_dgt hb x i
  have h3 := div_eq_dgt hb x (i + 1)
  have e1 : x / 2 ^ s / (2 ^ e) ^ i = x / (2 ^ e) ^ i / 2 ^ s := by rw [Nat.div_div_eq_div_mul, Nat.div_div_eq_div_mul, Nat.mul_comm]
  rw [dgt_def (2 ^ e) (x / 2 ^ s), e1, h2]
  generalize dgt (2 ^ e) x i = d at *
  have he : 2 ^ e = 2 ^ s * 2 ^ (e - s) := by rw [← Nat.pow_add]; congr 1; omega
  have e2 : d + 2 ^ e * (x / (2 ^ e) ^ (i + 1)) = d + 2 ^ s * (2 ^ (e - s) * (x / (2 ^ e) ^ (i + 1))) := by rw [← Nat.mul_assoc, ← he]
  rw [e2, Nat.add_mul_div_left _ _ (Nat.two_pow_pos s), h3]
  have h4 : d / 2 ^ s < 2 ^ (e - s) := by
    rw [Nat.div_lt_iff_lt_mul (Nat.two_pow_pos s), Nat.mul_comm, ← he]; exact h1
  generalize dgt (2 ^ e) x (i + 1) = c at *
  generalize d / 2 ^ s = f at *
  rw [Nat.mul_add, ← Nat.mul_assoc, Nat.mul_comm (2 ^ (e - s)) (2 ^ e), Nat.mul_assoc, ← Nat.add_assoc, Nat.add_mul_mod_self_left]
  have h5 : 2 ^ (e - s) * c % 2 ^ e = 2 ^ (e - s) * (c % 2 ^ s) := by
    have : 2 ^ e = 2 ^ (e - s) * 2 ^ s := by rw [Nat.mul_comm]; exact he
    rw [this, Nat.mul_mod_mul_left]
  rw [Nat.mul_comm c, h5, Nat.add_mod, h5]
  have h6 : c % 2 ^ s < 2 ^ s := Nat.mod_lt _ (Nat.two_pow_pos s)
  have h7 : 2 ^ (e - s) * (c % 2 ^ s + 1) ≤ 2 ^ (e - s) * 2 ^ s := Nat.mul_le_mul_left _ h6
  rw [Nat.mul_add, Nat.mul_comm (2 ^ (e - s)) (2 ^ s), ← he] at h7
  have h8 : 2 ^ (e - s) ≤ 2 ^ e := Nat.pow_le_pow_right (by omega) (by omega)
  rw [Nat.mod_eq_of_lt (a := f) (by omega), Nat.mod_eq_of_lt]; omega
theorem dgt_skip {b : Nat} (x k i : Nat) : dgt b (x / b ^ k) i = dgt b x (i + k) := by
  rw [dgt_def, dgt_def, Nat.div_div_eq_div_mul, ← Nat.pow_add, Nat.add_comm]
theorem or_add (x y s : Nat) (hx : x < 2 ^ s) : x ||| (2 ^ s * y) = x + 2 ^ s * y := by
  rw [Nat.or_comm, Nat.add_comm, Nat.two_pow_add_eq_or_of_lt hx]
/-- A digit to a base inside a digit to a power of it. -/
theorem dgt_in {b e : Nat} (hb : 0 < b) (n i j : Nat) (hj : j < e) : dgt b (dgt (b ^ e) n i) j = dgt b n (e * i + j) := by
  rw [dgt_def (b ^ e), dgt_mod _ hj, ← Nat.pow_mul, dgt_skip, Nat.add_comm]
/-- A step of a shift to the left: the base is two to the power e. -/
theorem shl_step {e : Nat} (x k q r : Nat) (hr : r ≤ e) :
    let b := 2 ^ e
    let V := x % b ^ k * 2 ^ r * b ^ q
    let D := dgt b x k
    (dgt b V (k + q) ||| (D * 2 ^ r % b)) = dgt b V (k + q) + D * 2 ^ r % b ∧ dgt b V (k + q) + D * 2 ^ r % b < b ∧
    dgt b (put b V (k + q) (dgt b V (k + q) + D * 2 ^ r % b)) (k + q + 1) = 0 ∧ D / 2 ^ (e - r) < b ∧
    put b (put b V (k + q) (dgt b V (k + q) + D * 2 ^ r % b)) (k + q + 1) (D / 2 ^ (e - r)) = x % b ^ (k + 1) * 2 ^ r * b ^ q := by
  intro b V D
  have hb0 : 0 < b := Nat.two_pow_pos e
  rcases Nat.eq_zero_or_pos e with he0 | he0
  · subst he0
    have hr0 : r = 0 := by omega
    subst hr0
    have hb1 : b = 1 := rfl
    have hD : D = 0 := by show dgt b x k = 0; rw [dgt_def, hb1, Nat.mod_one]
    have hV : V = 0 := by show x % b ^ k * 2 ^ 0 * b ^ q = 0; rw [hb1]; simp [Nat.mod_one]
    have hd : ∀ n i, dgt b n i = 0 := fun n i => by rw [dgt_def, hb1, Nat.mod_one]
    refine ⟨by rw [hd, hD]; simp, by rw [hd, hD, hb1]; simp, hd _ _, by rw [hD, hb1]; simp, ?_⟩
    rw [hd, hD, hV]
    unfold put
    simp [hb1, Nat.mod_one]
  have hb : 2 ≤ b := by
    show 2 ≤ 2 ^ e
    have : 2 ^ 1 ≤ 2 ^ e := Nat.pow_le_pow_right (by omega) he0
    simpa using this
  have hbe : b = 2 ^ r * 2 ^ (e - r) := by show 2 ^ e = _; rw [← Nat.pow_add]; congr 1; omega
  have hm := mod_lt_pow hb0 x k
  have hDb : D < b := dgt_lt hb0 x k
  have hVq : V = x % b ^ k * 2 ^ r * b ^ q := rfl
  have hVlt : x % b ^ k * 2 ^ r < b ^ k * 2 ^ r := (Nat.mul_lt_mul_right (Nat.two_pow_pos r)).2 hm
  have hh : dgt b V (k + q) = x % b ^ k * 2 ^ r / b ^ k := by
    rw [dgt_def, hVq, Nat.pow_add, ← Nat.div_div_eq_div_mul, Nat.div_div_eq_div_mul, Nat.mul_comm (b ^ k), ← Nat.div_div_eq_div_mul, Nat.mul_div_cancel _ (Nat.pow_pos hb0), Nat.mod_eq_of_lt]
    rw [Nat.div_lt_iff_lt_mul (Nat.pow_pos hb0)]
    refine Nat.lt_of_lt_of_le hVlt ?_
    rw [Nat.mul_comm]; exact Nat.mul_le_mul_right _ (Nat.pow_le_pow_right (by omega) hr)
  have hhr : dgt b V (k + q) < 2 ^ r := by
    rw [hh, Nat.div_lt_iff_lt_mul (Nat.pow_pos hb0), Nat.mul_comm (2 ^ r)]; exact hVlt
  have hlow : D * 2 ^ r % b = 2 ^ r * (D % 2 ^ (e - r)) := by rw [hbe, Nat.mul_comm D, Nat.mul_mod_mul_left]
  have hhi : D / 2 ^ (e - r) = D * 2 ^ r / b := by
    rw [hbe, Nat.mul_comm D, Nat.mul_div_mul_left _ _ (Nat.two_pow_pos r)]
  have hsum : dgt b V (k + q) + D * 2 ^ r % b < b := by
    rw [hlow]
    have h1 : D % 2 ^ (e - r) < 2 ^ (e - r) := Nat.mod_lt _ (Nat.two_pow_pos _)
    have h2 : 2 ^ r * (D % 2 ^ (e - r) + 1) ≤ 2 ^ r * 2 ^ (e - r) := Nat.mul_le_mul_left _ h1
    rw [← hbe, Nat.mul_add] at h2; omega
  have hVM : V < b ^ (k + q + 1) := by
    rw [hVq, Nat.pow_succ, Nat.pow_add, Nat.mul_right_comm (b ^ k)]
    refine (Nat.mul_lt_mul_right (Nat.pow_pos hb0)).2 (Nat.lt_of_lt_of_le hVlt (Nat.mul_le_mul_left _ (Nat.pow_le_pow_right (by omega) hr)))
  have hz : dgt b (put b V (k + q) (dgt b V (k + q) + D * 2 ^ r % b)) (k + q + 1) = 0 := by
    rw [dgt_put hb _ _ _ _ hsum, if_neg (by omega)]; exact dgt_of_lt hb hVM (Nat.le_refl _)
  refine ⟨?_, hsum, hz, Nat.lt_of_le_of_lt (Nat.div_le_self _ _) hDb, ?_⟩
  · rw [hlow]; exact or_add _ _ _ hhr
  · rw [put_new _ _ _ hb0 hz]
    have h1 := put_eq V (k + q) (dgt b V (k + q) + D * 2 ^ r % b) hb0
    rw [Nat.mul_add] at h1
    have h2 : put b V (k + q) (dgt b V (k + q) + D * 2 ^ r % b) = V + b ^ (k + q) * (D * 2 ^ r % b) := by omega
    rw [h2, hhi, Nat.pow_succ, Nat.add_assoc, Nat.mul_assoc, ← Nat.mul_add, Nat.mod_add_div]
    rw [mod_succ, Nat.add_mul, Nat.add_mul, hVq, Nat.pow_add]
    congr 1
    show b ^ k * b ^ q * (D * 2 ^ r) = b ^ k * D * 2 ^ r * b ^ q
    rw [Nat.mul_assoc, Nat.mul_assoc, Nat.mul_assoc, Nat.mul_comm (b ^ q), Nat.mul_assoc]
end Nt
set_option linter.unusedVariables false
namespace Go.Proofs.YtajcapliokblfaaDoor
open Nt

/-- A whole number by its sign and size. -/
def sgI (g : Bool) (n : Nat) : Int := if g = true then -(n : Int) else (n : Int)
theorem sgI_false (n : Nat) : sgI false n = (n : Int) := by simp [sgI]
theorem sgI_true (n : Nat) : sgI true n = -(n : Int) := by simp [sgI]
theorem sgI_abs (g : Bool) (n : Nat) : (sgI g n).natAbs = n := by cases g <;> simp [sgI]
theorem sgI_zero (g : Bool) : sgI g 0 = 0 := by cases g <;> simp [sgI]
theorem sgI_not (g : Bool) (n : Nat) : sgI (!g) n = -sgI g n := by cases g <;> simp [sgI]
/-- The fraction n over d with the sign g. -/
def fr (g : Bool) (n d : Nat) : Rat := mkRat (sgI g n) d
/-- A rational number's sign, numerator and denominator. -/
@[irreducible] def qG (q : Rat) : Bool := decide (q.num < 0)
@[irreducible] def qN (q : Rat) : Nat := q.num.natAbs
@[irreducible] def qD (q : Rat) : Nat := q.den
theorem qD_pos (q : Rat) : qD q ≠ 0 := by unfold qD; exact q.den_nz
theorem sgI_q (q : Rat) : sgI (qG q) (qN q) = q.num := by
  unfold qG qN sgI
  by_cases h : q.num < 0
  · rw [decide_eq_true h, if_pos rfl]; omega
  · rw [decide_eq_false h, if_neg Bool.false_ne_true]; omega
theorem fr_q (q : Rat) : fr (qG q) (qN q) (qD q) = q := by
  unfold fr
  rw [sgI_q]
  unfold qD
  exact Rat.mkRat_self q
theorem q_eq {x y : Rat} (h1 : qG x = qG y) (h2 : qN x = qN y) (h3 : qD x = qD y) : x = y := by
  rw [← fr_q x, ← fr_q y, h1, h2, h3]
theorem qN_fr (g : Bool) (n d : Nat) (hd : d ≠ 0) : qN (fr g n d) = n / Nat.gcd n d := by
  unfold qN fr
  rw [Rat.num_mkRat, if_neg hd, sgI_abs]
  have h : Int.natAbs (sgI g n / ((Nat.gcd d n : Nat) : Int)) = n / Nat.gcd d n := by
    have hdv : Nat.gcd d n ∣ n := Nat.gcd_dvd_right d n
    have hg : 0 < Nat.gcd d n := Nat.gcd_pos_of_pos_left n (Nat.pos_of_ne_zero hd)
    cases g
    · rw [sgI_false, ← Int.natCast_ediv, Int.natAbs_natCast]
    · rw [sgI_true, Int.neg_ediv_of_dvd (Int.natCast_dvd_natCast.2 hdv), Int.natAbs_neg, ← Int.natCast_ediv, Int.natAbs_natCast]
  rw [h, Nat.gcd_comm]
theorem qD_fr (g : Bool) (n d : Nat) (hd : d ≠ 0) : qD (fr g n d) = d / Nat.gcd n d := by
  unfold qD fr
  rw [Rat.den_mkRat, if_neg hd, sgI_abs, Nat.gcd_comm]
theorem fr_zero (g : Bool) (d : Nat) : fr g 0 d = 0 := by unfold fr; rw [sgI_zero]; exact Rat.zero_mkRat d
theorem qG_zero : qG 0 = false := by unfold qG; decide
theorem qN_zero : qN 0 = 0 := by unfold qN; decide
theorem qD_zero : qD 0 = 1 := by unfold qD; decide
theorem qN_eq_zero {q : Rat} : qN q = 0 ↔ q = 0 := by
  unfold qN
  rw [Int.natAbs_eq_zero, Rat.num_eq_zero]
theorem qG_fr (g : Bool) (n d : Nat) (hd : d ≠ 0) (hn : n ≠ 0) : qG (fr g n d) = g := by
  have h1 := qN_fr g n d hd
  have hg : 0 < Nat.gcd n d := Nat.gcd_pos_of_pos_left d (Nat.pos_of_ne_zero hn)
  have hq : 0 < n / Nat.gcd n d := Nat.div_pos (Nat.le_of_dvd (Nat.pos_of_ne_zero hn) (Nat.gcd_dvd_left n d)) hg
  unfold qG fr
  rw [Rat.num_mkRat, if_neg hd, sgI_abs]
  have hg' : 0 < Nat.gcd d n := by rw [Nat.gcd_comm]; exact hg
  have hq' : 0 < n / Nat.gcd d n := by rw [Nat.gcd_comm]; exact hq
  have hdv : Nat.gcd d n ∣ n := Nat.gcd_dvd_right d n
  cases g
  · rw [sgI_false, ← Int.natCast_ediv]; exact decide_eq_false (by omega)
  · rw [sgI_true, Int.neg_ediv_of_dvd (Int.natCast_dvd_natCast.2 hdv), ← Int.natCast_ediv]; exact decide_eq_true (by omega)
/-- What stands in lowest terms. -/
def Low (g : Bool) (n d : Nat) : Prop := d ≠ 0 ∧ Nat.gcd n d = 1 ∧ (n = 0 → g = false)
theorem low_fr {g : Bool} {n d : Nat} (h : Low g n d) : qG (fr g n d) = g ∧ qN (fr g n d) = n ∧ qD (fr g n d) = d := by
  obtain ⟨h1, h2, h3⟩ := h
  refine ⟨?_, by rw [qN_fr g n d h1, h2, Nat.div_one], by rw [qD_fr g n d h1, h2, Nat.div_one]⟩
  by_cases hn : n = 0
  · subst hn; rw [fr_zero, qG_zero, h3 rfl]
  · exact qG_fr g n d h1 hn
theorem low_q (q : Rat) : Low (qG q) (qN q) (qD q) := by
  refine ⟨qD_pos q, ?_, fun h => ?_⟩
  · unfold qN qD; exact q.reduced
  · rw [qN_eq_zero.1 h, qG_zero]
theorem qD_of_zero {q : Rat} (h : qN q = 0) : qD q = 1 := by rw [qN_eq_zero.1 h, qD_zero]
theorem qG_of_zero {q : Rat} (h : qN q = 0) : qG q = false := by rw [qN_eq_zero.1 h, qG_zero]
theorem qN_le (g : Bool) (n d : Nat) (hd : d ≠ 0) : qN (fr g n d) ≤ n := by rw [qN_fr g n d hd]; exact Nat.div_le_self _ _
theorem qD_le (g : Bool) (n d : Nat) (hd : d ≠ 0) : qD (fr g n d) ≤ d := by rw [qD_fr g n d hd]; exact Nat.div_le_self _ _

/-- The sum of two whole numbers by sign and size. -/
def adG (g : Bool) (x : Nat) (h : Bool) (y : Nat) : Bool := if g = h then g else if x < y then h else g
def adN (g : Bool) (x : Nat) (h : Bool) (y : Nat) : Nat := if g = h then x + y else if x < y then y - x else x - y
theorem ad_sgI (g : Bool) (x : Nat) (h : Bool) (y : Nat) : sgI (adG g x h y) (adN g x h y) = sgI g x + sgI h y := by
  unfold adG adN sgI
  by_cases c : x < y <;> cases g <;> cases h <;> simp [c] <;> omega
theorem fr_add (a b : Rat) : fr (adG (qG a) (qN a * qD b) (qG b) (qN b * qD a)) (adN (qG a) (qN a * qD b) (qG b) (qN b * qD a)) (qD a * qD b) = a + b := by
  have h : ∀ (g : Bool) (x y : Nat), sgI g (x * y) = sgI g x * (y : Int) := fun g x y => by cases g <;> simp [sgI, Int.neg_mul]
  unfold fr
  rw [ad_sgI, h, h, sgI_q, sgI_q]
  unfold qD
  exact (Rat.add_def' a b).symm
theorem sgI_mul (g h : Bool) (x y : Nat) : sgI (g != h) (x * y) = sgI g x * sgI h y := by
  cases g <;> cases h <;> simp [sgI, Int.neg_mul, Int.mul_neg]
theorem fr_mul (a b : Rat) : fr (qG a != qG b) (qN a * qN b) (qD a * qD b) = a * b := by
  unfold fr
  rw [sgI_mul, sgI_q, sgI_q]
  unfold qD
  exact (Rat.mul_def' a b).symm
theorem fr_flip (g : Bool) (n d : Nat) (hn : n ≠ 0) (hd : d ≠ 0) : fr g d n = (fr g n d)⁻¹ := by
  have h : fr g n d * fr g d n = 1 := by
    unfold fr
    rw [Rat.mkRat_mul_mkRat]
    have e : sgI g n * sgI g d = ((d * n : Nat) : Int) := by cases g <;> simp [sgI, Int.mul_comm, Int.mul_neg]
    rw [e]
    have := Rat.mkRat_mul_left (n := 1) (d := 1) (a := d * n) (Nat.mul_ne_zero hd hn)
    rw [Int.mul_one, Nat.mul_one] at this
    rw [this]; rfl
  have h0 : fr g n d ≠ 0 := fun c => by rw [c, Rat.zero_mul] at h; exact absurd h (by decide)
  calc fr g d n = (fr g n d)⁻¹ * fr g n d * fr g d n := by rw [Rat.inv_mul_cancel _ h0, Rat.one_mul]
    _ = (fr g n d)⁻¹ * (fr g n d * fr g d n) := Rat.mul_assoc _ _ _
    _ = (fr g n d)⁻¹ := by rw [h, Rat.mul_one]
theorem fr_quo (a b : Rat) (hb : qN b ≠ 0) : fr (qG a != qG b) (qN a * qD b) (qD a * qN b) = a / b := by
  have h1 : fr (qG a != qG b) (qN a * qD b) (qD a * qN b) = fr (qG a) (qN a) (qD a) * fr (qG b) (qD b) (qN b) := by
    unfold fr
    rw [sgI_mul, Rat.mkRat_mul_mkRat]
  rw [h1, fr_q, fr_flip _ _ _ hb (qD_pos b), fr_q, Rat.div_def]
theorem q_neg (q : Rat) : qG (-q) = (!qG q && decide (qN q ≠ 0)) ∧ qN (-q) = qN q ∧ qD (-q) = qD q := by
  have h : (-q).num = -q.num := rfl
  have h2 : (-q).den = q.den := rfl
  refine ⟨?_, by unfold qN; rw [h, Int.natAbs_neg], by unfold qD; rw [h2]⟩
  unfold qG qN
  rw [h]
  by_cases h1 : q.num < 0
  · rw [decide_eq_true h1, decide_eq_false (by omega)]; rfl
  · rw [decide_eq_false h1]
    by_cases h0 : q.num = 0
    · rw [h0]; rfl
    · rw [decide_eq_true (by omega : -q.num < 0), decide_eq_true (by omega : q.num.natAbs ≠ 0)]; rfl
/-- Which of two is the greater. -/
def qC (a b : Rat) : Int := if a < b then -1 else if a = b then 0 else 1
theorem qC_sub (a b : Rat) : qC a b = if qN (a - b) = 0 then 0 else if qG (a - b) = true then -1 else 1 := by
  have h0 : qN (a - b) = 0 ↔ a = b := by
    rw [qN_eq_zero]
    constructor
    · intro h; have := congrArg (· + b) h; simpa [Rat.sub_add_cancel, Rat.zero_add] using this
    · rintro rfl; exact Rat.sub_self
  have h1 : qG (a - b) = true ↔ a < b := by
    unfold qG
    rw [decide_eq_true_iff]
    have : (a - b).num < 0 ↔ ¬ (0 ≤ a - b) := by rw [← Rat.num_nonneg]; omega
    have e : 0 - (a - b) = b - a := by rw [Rat.sub_eq_add_neg, Rat.zero_add, Rat.neg_sub]
    rw [this, Rat.not_le, Rat.lt_iff_sub_pos (a - b) 0, e, ← Rat.lt_iff_sub_pos]
  unfold qC
  by_cases c : a = b
  · rw [if_pos (h0.2 c), if_neg (by rw [c]; exact Rat.lt_irrefl), if_pos c]
  · rw [if_neg (fun h => c (h0.1 h)), if_neg c]
    by_cases d : a < b
    · rw [if_pos d, if_pos (h1.2 d)]
    · rw [if_neg d, if_neg (fun h => d (h1.1 h))]
end Go.Proofs.YtajcapliokblfaaDoor
set_option linter.unusedSimpArgs false
set_option linter.unusedVariables false
namespace Nt

@[irreducible] def W : Nat := 18446744073709551616
theorem W_eq : W = 18446744073709551616 := by unfold W; rfl
theorem W_two : W = 2 ^ 64 := by rw [W_eq]
theorem W_256 : W = 256 ^ 8 := by rw [W_eq]
theorem W2 : 2 ≤ W := by rw [W_eq]; omega
theorem W0 : 0 < W := by rw [W_eq]; omega
theorem wd_lt (n i : Nat) : dgt W n i < 18446744073709551616 := Nat.lt_of_lt_of_eq (dgt_lt W0 n i) W_eq
theorem words_bytes (n : Nat) : (nd 256 n + 7) / 8 = nd W n := by
  have h := fun k => nd_pow (b := 256) (c := W) (e := 8) (by omega) (by omega) W_256 n k
  have h1 := (h (nd W n)).2 (Nat.le_refl _)
  have h2 := (h ((nd 256 n + 7) / 8)).1 (by omega)
  omega
theorem bytes_bits (n : Nat) : (nd 2 n + 7) / 8 = nd 256 n := by
  have h := fun k => nd_pow (b := 2) (c := 256) (e := 8) (by omega) (by omega) (by rfl) n k
  have h1 := (h (nd 256 n)).2 (Nat.le_refl _)
  have h2 := (h ((nd 2 n + 7) / 8)).1 (by omega)
  omega
theorem bits_le (n k : Nat) : nd 2 n ≤ 8 * k ↔ nd 256 n ≤ k := nd_pow (b := 2) (c := 256) (e := 8) (by omega) (by omega) (by rfl) n k
theorem nd_unique {b n k : Nat} (hb : 2 ≤ b) (h1 : b ^ k ≤ n) (h2 : n < b ^ (k + 1)) : nd b n = k + 1 := by
  have := nd_le hb h2; have := (pow_le_iff hb k n).1 h1; omega
/-- The digits of a number: so many of its lower digits' base's, and those of the highest one. -/
theorem nd_top {b c e : Nat} (hb : 2 ≤ b) (he : 0 < e) (hc : c = b ^ e) (n : Nat) (hn : n ≠ 0) : nd b n = e * (nd c n - 1) + nd b (dgt c n (nd c n - 1)) := by
  have hc2 : 2 ≤ c := by
    subst hc; obtain ⟨f, rfl⟩ : ∃ f, e = f + 1 := ⟨e - 1, by omega⟩
    rw [Nat.pow_succ]; have := Nat.pow_pos (n := f) (show 0 < b by omega); exact Nat.le_trans hb (Nat.le_mul_of_pos_left _ this)
  have h0 : nd c n ≠ 0 := fun k => hn ((nd_eq_zero hc2).1 k)
  have ht := dgt_top hc2 hn
  obtain ⟨L, hL⟩ : ∃ L, nd c n = L + 1 := ⟨nd c n - 1, by omega⟩
  rw [hL, Nat.add_sub_cancel] at ht ⊢
  have hnl : n < c ^ (L + 1) := by rw [← hL]; exact lt_nd hc2
  have hd : n / c ^ L = dgt c n L := by
    rw [dgt_def, Nat.mod_eq_of_lt]
    rw [Nat.div_lt_iff_lt_mul (Nat.pow_pos (by omega)), Nat.mul_comm, ← Nat.pow_succ]; exact hnl
  have hcl : c ^ L = b ^ (e * L) := by rw [hc, ← Nat.pow_mul]
  generalize dgt c n L = d at *
  have hd0 : nd b d ≠ 0 := fun k => ht ((nd_eq_zero hb).1 k)
  obtain ⟨m, hm⟩ : ∃ m, nd b d = m + 1 := ⟨nd b d - 1, by omega⟩
  have h3 := lt_nd (n := d) hb
  have h4 : b ^ m ≤ d := (pow_le_iff hb m d).2 (by omega)
  rw [hm] at h3 ⊢
  rw [← Nat.add_assoc]
  have hp : 0 < b ^ (e * L) := Nat.pow_pos (by omega)
  rw [hcl] at hd
  apply nd_unique hb
  · rw [Nat.pow_add, Nat.mul_comm]; exact Nat.le_trans (Nat.mul_le_mul_right _ (hd ▸ h4)) (Nat.div_mul_le_self _ _)
  · rw [Nat.add_assoc, Nat.pow_add, Nat.mul_comm, ← Nat.div_lt_iff_lt_mul hp, hd]; exact h3

/-! Texts. -/
@[irreducible] def natS (n : Nat) : ByteArray := ⟨((dl 256 n (nd 256 n)).reverse.map UInt8.ofNat).toArray⟩
theorem natS_def (n : Nat) : natS n = ⟨((dl 256 n (nd 256 n)).reverse.map UInt8.ofNat).toArray⟩ := by unfold natS; rfl
theorem natS_size (n : Nat) : (natS n).size = nd 256 n := by
  rw [natS_def]; show (Array.size _) = _; simp [dl_length]
theorem natS_zero : natS 0 = ⟨#[]⟩ := by rw [natS_def, nd_zero]; rfl
theorem ba_get (s : ByteArray) (i : Nat) (h : i < s.size) : s[i] = s.data[i]'h := rfl
theorem natS_get (n i : Nat) (h : i < (natS n).size) : ((natS n)[i]).toNat = dgt 256 n (nd 256 n - 1 - i) := by
  have hi : i < nd 256 n := by rwa [natS_size] at h
  rw [ba_get]
  simp only [natS_def]
  rw [List.getElem_toArray, List.getElem_map, List.getElem_reverse]
  have e := dl_get? 256 n (nd 256 n) ((dl 256 n (nd 256 n)).length - 1 - i) (by rw [dl_length]; omega)
  rw [List.getElem?_eq_getElem (by rw [dl_length]; omega)] at e
  rw [Option.some.inj e, dl_length, UInt8.toNat_ofNat']
  exact Nat.mod_eq_of_lt (dgt_lt (by omega) _ _)
theorem ba_ext {s t : ByteArray} (h : s.size = t.size) (h2 : ∀ i (h1 : i < s.size) (h2 : i < t.size), s[i].toNat = t[i].toNat) : s = t := by
  apply ByteArray.ext; apply Array.ext h
  intro i a b
  exact UInt8.toNat_inj.1 (h2 i a b)
theorem natS_inj {m n : Nat} (h : natS m = natS n) : m = n := by
  have hs : nd 256 m = nd 256 n := by rw [← natS_size, ← natS_size, h]
  refine eq_of_digits (b := 256) (L := nd 256 m) (lt_nd (by omega)) (hs ▸ lt_nd (by omega)) (fun i hi => ?_)
  have h1 := natS_get m (nd 256 m - 1 - i) (by rw [natS_size]; omega)
  have h2 := natS_get n (nd 256 m - 1 - i) (by rw [natS_size]; omega)
  rw [show nd 256 m - 1 - (nd 256 m - 1 - i) = i by omega] at h1
  rw [show nd 256 n - 1 - (nd 256 m - 1 - i) = i by omega] at h2
  rw [← h1, ← h2]; simp only [h]
/-- May a text of bytes be? -/
def May (s : ByteArray) : Prop := s.size ≤ 16384 ∧ ∀ h : 0 < s.size, s[0].toNat ≠ 0
/-- May a number be? -/
def fits (n : Nat) : Prop := nd 256 n ≤ 16384
instance (n : Nat) : Decidable (fits n) := inferInstanceAs (Decidable (_ ≤ _))
theorem may_natS (n : Nat) : May (natS n) ↔ fits n := by
  unfold May fits
  have hz := natS_size n
  constructor
  · intro h; rw [← hz]; exact h.1
  · refine fun h => ⟨by rw [hz]; exact h, fun h0 => ?_⟩
    rw [natS_get n 0 (by rw [natS_size]; omega)]
    exact dgt_top (by omega) (fun c => by subst c; rw [natS_size, nd_zero] at h0; omega)
/-- The number of any bytes. -/
def bytesN (s : ByteArray) : Nat := of 256 (s.data.toList.reverse.map UInt8.toNat)
theorem bytesN_lt (s : ByteArray) : bytesN s < 256 ^ s.size := by
  have := of_lt (b := 256) (by omega) (s.data.toList.reverse.map UInt8.toNat) (fun x hx => by
    obtain ⟨y, _, rfl⟩ := List.mem_map.1 hx; exact y.toNat_lt)
  unfold bytesN
  rwa [List.length_map, List.length_reverse, Array.length_toList] at this
theorem bytesN_dgt (s : ByteArray) (i : Nat) (h : i < s.size) : dgt 256 (bytesN s) (s.size - 1 - i) = (s[i]).toNat := by
  unfold bytesN
  have hl : (s.data.toList.reverse.map UInt8.toNat).length = s.size := by rw [List.length_map, List.length_reverse, Array.length_toList]; rfl
  rw [dgt_of (by omega) _ (fun x hx => by obtain ⟨y, _, rfl⟩ := List.mem_map.1 hx; exact y.toNat_lt) _ (by rw [hl]; omega)]
  rw [List.getElem_map, List.getElem_reverse, ba_get]
  congr 1
  rw [Array.getElem_toList]
  congr 1
  rw [Array.length_toList]
  have : s.size = s.data.size := rfl
  omega
theorem may_ex {s : ByteArray} (h : May s) : s = natS (bytesN s) := by
  have hz : nd 256 (bytesN s) = s.size := by
    have h1 := nd_le (by omega) (bytesN_lt s)
    rcases Nat.eq_zero_or_pos s.size with h0 | h0
    · omega
    · have h2 := bytesN_dgt s 0 h0
      have h3 := h.2 h0
      rw [← h2] at h3
      rcases Nat.lt_or_ge (s.size - 1 - 0) (nd 256 (bytesN s)) with h4 | h4
      · omega
      · exact absurd (dgt_big (by omega) h4) h3
  apply ba_ext (by rw [natS_size, hz])
  intro i a b
  rw [natS_get _ _ b, hz, bytesN_dgt s i a]
theorem bytesN_natS (n : Nat) : bytesN (natS n) = n := by
  refine eq_of_digits (b := 256) (L := nd 256 n) (by have := bytesN_lt (natS n); rwa [natS_size] at this) (lt_nd (by omega)) (fun i hi => ?_)
  have h1 := bytesN_dgt (natS n) (nd 256 n - 1 - i) (by rw [natS_size]; omega)
  rw [natS_get, natS_size, show nd 256 n - 1 - (nd 256 n - 1 - i) = i by omega] at h1
  exact h1
theorem may_num {s : ByteArray} (h : May s) : ∃ n, fits n ∧ s = natS n := ⟨bytesN s, (may_natS _).1 (may_ex h ▸ h), may_ex h⟩
theorem bitLenAux_nd : ∀ (f x : Nat), nd 2 x ≤ f → Go.Lib.bitLenAux f x = nd 2 x := by
  intro f
  induction f with
  | zero => intro x h; unfold Go.Lib.bitLenAux; omega
  | succ f ih =>
    intro x h
    unfold Go.Lib.bitLenAux
    by_cases h0 : x = 0
    · rw [if_pos h0, h0, nd_zero]
    · rw [nd_step (by omega) h0] at h ⊢
      rw [if_neg h0, ih _ (by omega)]; omega
theorem bitLen_nd {x : Nat} (h : x < 18446744073709551616) : Go.Lib.bitLen x = nd 2 x := by
  unfold Go.Lib.bitLen
  exact bitLenAux_nd _ _ (nd_le (by omega) h)

/-! What has been read when k bytes of a text are. -/
def readV (s : ByteArray) (k : Nat) : Nat := 256 ^ (s.size - k) * (bytesN s / 256 ^ (s.size - k))
theorem readV_zero (s : ByteArray) : readV s 0 = 0 := by
  unfold readV; rw [Nat.sub_zero, Nat.div_eq_of_lt (bytesN_lt s), Nat.mul_zero]
theorem readV_full (s : ByteArray) : readV s s.size = bytesN s := by
  unfold readV; rw [Nat.sub_self, Nat.pow_zero, Nat.one_mul, Nat.div_one]
theorem or_hi (x y p : Nat) (hy : y < 2 ^ p) : (2 ^ p * x) ||| y = 2 ^ p * x + y := by
  rw [Nat.two_pow_add_eq_or_of_lt hy]
theorem mul_lt_pow {x b r e : Nat} (hx : x < b) (hr : r < e) (hb : 0 < b) : x * b ^ r < b ^ e := by
  have h1 : (x + 1) * b ^ r ≤ b * b ^ r := Nat.mul_le_mul_right _ hx
  have h2 : b ^ (r + 1) ≤ b ^ e := Nat.pow_le_pow_right hb hr
  have h3 := Nat.pow_pos (n := r) hb
  rw [Nat.pow_succ, Nat.mul_comm] at h2
  rw [Nat.add_mul, Nat.one_mul] at h1; omega
/-- A byte put into words below what stands there. -/
theorem put_byte (V Q v q r : Nat) (hr : r < 8) (hv : v < 256) (hV : V = 256 ^ (8 * q + r + 1) * Q) :
    (dgt W V q ||| v * 256 ^ r) = dgt W V q + v * 256 ^ r ∧ dgt W V q + v * 256 ^ r < 18446744073709551616 ∧
    put W V q (dgt W V q + v * 256 ^ r) = V + 256 ^ (8 * q + r) * v := by
  have h1 : dgt W V q = 256 ^ (r + 1) * (Q % 256 ^ (7 - r)) := by
    rw [dgt_def, hV, W_256, ← Nat.pow_mul, show 8 * q + r + 1 = 8 * q + (r + 1) by omega, Nat.pow_add, Nat.mul_assoc, Nat.mul_div_cancel_left _ (Nat.pow_pos (by omega))]
    conv => lhs; rw [show 8 = (r + 1) + (7 - r) by omega, Nat.pow_add 256 (r + 1) (7 - r)]
    rw [Nat.mul_mod_mul_left]
  have h2 : v * 256 ^ r < 256 ^ (r + 1) := mul_lt_pow hv (by omega) (by omega)
  have h3 : dgt W V q + v * 256 ^ r < W := by
    rw [h1, W_256]
    have h4 : Q % 256 ^ (7 - r) < 256 ^ (7 - r) := Nat.mod_lt _ (Nat.pow_pos (by omega))
    have h5 : 256 ^ (r + 1) * (Q % 256 ^ (7 - r) + 1) ≤ 256 ^ (r + 1) * 256 ^ (7 - r) := Nat.mul_le_mul_left _ h4
    rw [← Nat.pow_add, show r + 1 + (7 - r) = 8 by omega, Nat.mul_add] at h5
    omega
  refine ⟨?_, Nat.lt_of_lt_of_eq h3 W_eq, ?_⟩
  · rw [h1, show (256 : Nat) ^ (r + 1) = 2 ^ (8 * (r + 1)) by rw [Nat.pow_mul]] at *
    exact or_hi _ _ _ h2
  · have h4 := put_eq V q (dgt W V q + v * 256 ^ r) W0
    rw [Nat.mul_add] at h4
    have h5 : W ^ q * (v * 256 ^ r) = 256 ^ (8 * q + r) * v := by rw [W_256, ← Nat.pow_mul, Nat.pow_add, Nat.mul_comm v, Nat.mul_assoc]
    rw [h5] at h4; omega
theorem readV_form (s : ByteArray) (k m : Nat) (h : s.size = k + 1 + m) : readV s k = 256 ^ (m + 1) * (bytesN s / 256 ^ (m + 1)) := by
  unfold readV; rw [show s.size - k = m + 1 by omega]
theorem readV_succ (s : ByteArray) (k m : Nat) (h : s.size = k + 1 + m) (hk : k < s.size) : readV s (k + 1) = readV s k + 256 ^ m * (s[k]).toNat := by
  rw [readV_form s k m h]
  unfold readV
  rw [show s.size - (k + 1) = m by omega, div_eq_dgt (b := 256) (by omega) (bytesN s) m]
  have := bytesN_dgt s k hk
  rw [show s.size - 1 - k = m by omega] at this
  rw [this, Nat.mul_add, Nat.pow_succ, ← Nat.mul_assoc, Nat.add_comm]
theorem read_step (s : ByteArray) (k m q r : Nat) (h : s.size = k + 1 + m) (hk : k < s.size) (hq : m / 8 = q) (hr : m % 8 = r) :
    (dgt W (readV s k) q ||| (s[k]).toNat * 256 ^ r) = dgt W (readV s k) q + (s[k]).toNat * 256 ^ r ∧ dgt W (readV s k) q + (s[k]).toNat * 256 ^ r < 18446744073709551616 ∧
    put W (readV s k) q (dgt W (readV s k) q + (s[k]).toNat * 256 ^ r) = readV s (k + 1) := by
  have hm : m = 8 * q + r := by omega
  have := put_byte (readV s k) (bytesN s / 256 ^ (m + 1)) (s[k]).toNat q r (by omega) (s[k]).toNat_lt (by rw [readV_form s k m h, hm])
  rw [readV_succ s k m h hk, hm]; exact this
end Nt
set_option linter.unusedSimpArgs false
set_option linter.unusedVariables false
namespace Nt

/-- What holds of a guess and its rest. -/
def Gss (u c yh yl q r : Nat) : Prop := u = q * yh + r ∧ (u * 4294967296 + c) / (yh * 4294967296 + yl) ≤ q ∧ q ≤ 4294967297 ∧ r < 4294967296
section
variable {u c yh yl q r : Nat}
theorem gss_start (hu : u < yh * 4294967296 + yl) (hc : c < 4294967296) (hl : yl < 4294967296) (h1 : 2147483648 ≤ yh) (h2 : yh < 4294967296) : Gss u c yh yl (u / yh) (u - u / yh * yh) := by
  have hd := Nat.div_add_mod u yh
  have hm := Nat.mod_lt u (show 0 < yh by omega)
  rw [Nat.mul_comm] at hd
  refine ⟨by omega, ?_, ?_, by omega⟩
  · rw [Nat.le_div_iff_mul_le (by omega)]
    have h3 := Nat.div_mul_le_self (u * 4294967296 + c) (yh * 4294967296 + yl)
    generalize (u * 4294967296 + c) / (yh * 4294967296 + yl) = Q at *
    rw [Nat.mul_add, ← Nat.mul_assoc] at h3
    generalize Q * yh = p at *
    have := Nat.zero_le (Q * yl)
    omega
  · have h3 : u / yh < 4294967298 := by
      rw [Nat.div_lt_iff_lt_mul (by omega)]; omega
    omega
theorem gss_more (h : Gss u c yh yl q r) (hu : u < yh * 4294967296 + yl) (hc : c < 4294967296) (h2 : yh < 4294967296) (ht : 4294967296 ≤ q ∨ 4294967296 * r + c < q * yl) : (u * 4294967296 + c) / (yh * 4294967296 + yl) < q := by
  obtain ⟨e, _, _, hr⟩ := h
  rw [Nat.div_lt_iff_lt_mul (by omega)]
  rcases ht with ht | ht
  · have : 4294967296 * (yh * 4294967296 + yl) ≤ q * (yh * 4294967296 + yl) := Nat.mul_le_mul_right _ ht
    omega
  · rw [Nat.mul_add, ← Nat.mul_assoc]
    generalize q * yh = p at *
    generalize q * yl = o at *
    omega
theorem gss_next (h : Gss u c yh yl q r) (hu : u < yh * 4294967296 + yl) (hc : c < 4294967296) (h2 : yh < 4294967296) (ht : 4294967296 ≤ q ∨ 4294967296 * r + c < q * yl) :
    1 ≤ q ∧ u = (q - 1) * yh + (r + yh) ∧ (u * 4294967296 + c) / (yh * 4294967296 + yl) ≤ q - 1 ∧ q - 1 ≤ 4294967296 := by
  have hm := gss_more h hu hc h2 ht
  obtain ⟨e, _, hq, hr⟩ := h
  generalize (u * 4294967296 + c) / (yh * 4294967296 + yl) = Q at *
  refine ⟨by omega, ?_, by omega, by omega⟩
  obtain ⟨p, rfl⟩ : ∃ p, q = p + 1 := ⟨q - 1, by omega⟩
  rw [Nat.add_sub_cancel, e, Nat.add_mul]; omega
theorem gss_end (e : u = q * yh + r) (hQ : (u * 4294967296 + c) / (yh * 4294967296 + yl) ≤ q) (hy : 0 < yh) (ht : q * yl ≤ 4294967296 * r + c) : q = (u * 4294967296 + c) / (yh * 4294967296 + yl) := by
  apply Nat.le_antisymm _ hQ
  rw [Nat.le_div_iff_mul_le (by omega), Nat.mul_add, ← Nat.mul_assoc]
  clear hQ
  generalize q * yh = p at *
  generalize q * yl = o at *
  omega
theorem gss_far (hq : q ≤ 4294967296) (hl : yl < 4294967296) (hr : 4294967296 ≤ r) : q * yl ≤ 4294967296 * r + c := by
  have h1 : q * yl ≤ 4294967296 * yl := Nat.mul_le_mul_right _ hq
  have h2 : 4294967296 * yl ≤ 4294967296 * r := Nat.mul_le_mul_left _ (by omega)
  omega
end
/-- Two digits of a quotient, one behind the other. -/
theorem two_stepsB (B u c d y : Nat) (hy : 0 < y) (hd : d < B) :
    (u * B + c) / y * B + ((u * B + c) % y * B + d) / y = (u * (B * B) + (c * B + d)) / y ∧
    ((u * B + c) % y * B + d) % y = (u * (B * B) + (c * B + d)) % y := by
  have h := Nat.div_add_mod (u * B + c) y
  generalize hQ : (u * B + c) / y = Q at *
  generalize hR : (u * B + c) % y = R at *
  have e : u * (B * B) + (c * B + d) = (R * B + d) + y * (Q * B) := by
    rw [← Nat.mul_assoc, ← Nat.mul_assoc, ← Nat.add_assoc, ← Nat.add_mul, ← h, Nat.add_mul]
    omega
  rw [e, Nat.add_mul_div_left _ _ hy, Nat.add_mul_mod_self_left]
  exact ⟨Nat.add_comm _ _, rfl⟩
theorem two_steps (u c d y : Nat) (hy : 0 < y) (hd : d < 4294967296) :
    (u * 4294967296 + c) / y * 4294967296 + ((u * 4294967296 + c) % y * 4294967296 + d) / y = (u * 18446744073709551616 + (c * 4294967296 + d)) / y ∧
    ((u * 4294967296 + c) % y * 4294967296 + d) % y = (u * 18446744073709551616 + (c * 4294967296 + d)) % y :=
  two_stepsB 4294967296 u c d y hy hd
/-- The divisor and the number times the same power. -/
theorem scale_div (x y p : Nat) (hp : 0 < p) : x * p / (y * p) = x / y ∧ x * p % (y * p) / p = x % y := by
  refine ⟨Nat.mul_div_mul_right _ _ hp, ?_⟩
  rw [Nat.mul_mod_mul_right, Nat.mul_div_cancel _ hp]
/-- The highest words of a number that is shifted. -/
theorem shl_two (hi lo s : Nat) (hs : s ≤ 64) (hlo : lo < 18446744073709551616) (hhi : hi * 2 ^ s < 18446744073709551616) :
    (hi * 2 ^ s) ||| (lo / 2 ^ (64 - s)) = hi * 2 ^ s + lo / 2 ^ (64 - s) ∧ hi * 2 ^ s + lo / 2 ^ (64 - s) < 18446744073709551616 ∧
    (hi * 2 ^ s + lo / 2 ^ (64 - s)) * 18446744073709551616 + lo * 2 ^ s % 18446744073709551616 = (hi * 18446744073709551616 + lo) * 2 ^ s := by
  have e : (18446744073709551616 : Nat) = 2 ^ s * 2 ^ (64 - s) := by
    rw [← Nat.pow_add, show s + (64 - s) = 64 by omega]
  have h1 : lo / 2 ^ (64 - s) < 2 ^ s := by
    rw [Nat.div_lt_iff_lt_mul (Nat.two_pow_pos _), ← e]; exact hlo
  have h2 : hi * 2 ^ s + lo / 2 ^ (64 - s) < 18446744073709551616 := by
    rw [e] at hhi ⊢
    rw [Nat.mul_comm] at hhi
    have := (Nat.mul_lt_mul_left (Nat.two_pow_pos s)).1 hhi
    have h3 : 2 ^ s * (hi + 1) ≤ 2 ^ s * 2 ^ (64 - s) := Nat.mul_le_mul_left _ this
    rw [Nat.mul_add, Nat.mul_comm] at h3
    omega
  refine ⟨?_, h2, ?_⟩
  · rw [Nat.mul_comm]; exact (Nat.two_pow_add_eq_or_of_lt h1 hi).symm
  · have h4 : lo * 2 ^ s % 18446744073709551616 = lo % 2 ^ (64 - s) * 2 ^ s := by
      rw [show (18446744073709551616 : Nat) = 2 ^ (64 - s) * 2 ^ s by rw [e, Nat.mul_comm], Nat.mul_mod_mul_right]
    have h5 := Nat.div_add_mod lo (2 ^ (64 - s))
    rw [h4, Nat.add_mul, Nat.add_mul]
    have h6 : lo / 2 ^ (64 - s) * 18446744073709551616 = 2 ^ (64 - s) * (lo / 2 ^ (64 - s)) * 2 ^ s := by rw [e, Nat.mul_assoc, Nat.mul_comm (2 ^ (64 - s)), Nat.mul_assoc, Nat.mul_comm (2 ^ s)]
    have h7 : lo * 2 ^ s = 2 ^ (64 - s) * (lo / 2 ^ (64 - s)) * 2 ^ s + lo % 2 ^ (64 - s) * 2 ^ s := by rw [← Nat.add_mul, h5]
    rw [h6, h7, Nat.mul_right_comm]; omega
end Nt
namespace Go.Proofs.YtajcapliokblfaaDoor
open Go Go.RowKit Nt

/-- A block that is known whole. -/
def Blk (w : World) (g : Nat) (t : TypeId) (cs : Array Value) : Prop := w.heap[g]? = some (.cells cs t (0, 0))
section
variable {w w' : World} {g : Nat} {t : TypeId} {cs : Array Value}
theorem Blk.lt (h : Blk w g t cs) : g < w.heap.size := by
  rcases Nat.lt_or_ge g w.heap.size with hlt | hge
  · exact hlt
  · unfold Blk at h; rw [Array.getElem?_eq_none hge] at h; cases h
theorem Blk.cell (h : Blk w g t cs) (i : Nat) : w.cell? ⟨g, i, none⟩ = cs[i]? := cell_of_row w g i cs t (0, 0) h
theorem Blk.frozen (h : Blk w g t cs) (i : Nat) : w.frozen? ⟨g, i, none⟩ = false := by
  unfold Blk at h
  simp [World.frozen?, h]
theorem Blk.new (w : World) (t : TypeId) (cs : Array Value) : Blk (w.alloc (.cells cs t)) w.heap.size t cs := heap_alloc_new w _
theorem Blk.drew (h : Blk w g t cs) : Blk w.drew g t cs := h
theorem Blk.drewN (h : Blk w g t cs) (n : Nat) : Blk (w.drewN n) g t cs := h
theorem Blk.alloc (h : Blk w g t cs) (o : Obj) : Blk (w.alloc o) g t cs := (Below.heap_alloc w o g h.lt).trans h
theorem Blk.set_ (h : Blk w g t cs) (i : Nat) (u : Value) : Blk (w.setCell ⟨g, i, none⟩ u) g t (cs.setIfInBounds i u) := by
  unfold Blk at h ⊢
  simp [World.setCell, Array.getElem?_modify, h]
theorem Blk.far (h : Blk w g t cs) {p : Addr} (hp : g ≠ p.block) (u : Value) : Blk (w.setCell p u) g t cs := (Below.heap_setCell w p u g hp).trans h
theorem Blk.below {B : Nat} (h : Blk w g t cs) (hb : Below B w w') (hg : g < B) : Blk w' g t cs := (hb.block g hg).trans h
end

/-- The words of a number, as cells. -/
def wcells (n L : Nat) : Array Value := ((dl W n L).map (fun (x : Nat) => Value.int .u64 (x : Int))).toArray
theorem wcells_size (n L : Nat) : (wcells n L).size = L := by simp [wcells, dl_length]
theorem wcells_get (n L j : Nat) (h : j < L) : (wcells n L)[j]? = some (.int .u64 (dgt W n j : Nat)) := by
  unfold wcells
  rw [List.getElem?_toArray, List.getElem?_map, dl_get? _ _ _ _ h]; rfl
theorem wcells_set (n L j v : Nat) (hv : v < 18446744073709551616) : (wcells n L).setIfInBounds j (.int .u64 (v : Nat)) = wcells (put W n j v) L := by
  unfold wcells
  rw [← dl_set W2 n L j v (by rw [W_eq]; exact hv), List.map_set]
  simp
theorem wcells_zero (L : Nat) : wcells 0 L = madeCells (Value.cells (.int .u64 0)) (L * 1) := by
  apply Array.ext_getElem?
  intro j
  by_cases h : j < L
  · rw [wcells_get 0 L j h, Nat.mul_one]
    have e : dgt W 0 j = 0 := by rw [dgt_def]; simp
    rw [e]
    simp [madeCells, Value.cells, h, Nat.mod_one]
  · rw [Array.getElem?_eq_none (by rw [wcells_size]; omega), Array.getElem?_eq_none (by simp [madeCells]; omega)]
theorem wcells_made (L : Nat) : madeCells #[.int .u64 0] L = wcells 0 L := by
  have := wcells_zero L; rw [Nat.mul_one] at this; exact this.symm
theorem wcells_congr {n m L : Nat} (h : n % W ^ L = m % W ^ L) : wcells n L = wcells m L := by
  unfold wcells; rw [← dl_mod W n L, h, dl_mod]

/-- The words from the lowest on up to L of the number n stand at A, below block B. -/
def Row (w : World) (B : Nat) (A : Option Addr) (n L : Nat) : Prop := 0 < L → ∃ g, A = some ⟨g, 0, none⟩ ∧ g < B ∧ ∀ j, j < L → w.cell? ⟨g, j, none⟩ = some (.int .u64 (dgt W n j : Nat))
section
variable {w w' : World} {B B' : Nat} {A : Option Addr} {n L : Nat}
theorem Row.at_ (h : Row w B A n L) {k : Nat} (hk : k < L) : ∃ g, A = some ⟨g, 0, none⟩ ∧ g < B ∧ w.cell? ⟨g, k, none⟩ = some (.int .u64 (dgt W n k : Nat)) := by
  obtain ⟨g, e, hg, hc⟩ := h (by omega); exact ⟨g, e, hg, hc k hk⟩
theorem Row.keep (h : Row w B A n L) (hk : ∀ p : Addr, p.block < B → w'.cell? p = w.cell? p) : Row w' B A n L := fun hL => by
  obtain ⟨g, e, hg, hc⟩ := h hL; exact ⟨g, e, hg, fun j hj => (hk _ hg).trans (hc j hj)⟩
theorem Row.more (h : Row w B A n L) (hB : B ≤ B') : Row w B' A n L := fun hL => by
  obtain ⟨g, e, hg, hc⟩ := h hL; exact ⟨g, e, by omega, hc⟩
theorem Row.below (h : Row w B A n L) (hb : Below B w w') : Row w' B A n L := h.keep fun _ hp => hb.cell hp
theorem Row.drewN (h : Row w B A n L) (k : Nat) : Row (w.drewN k) B A n L := h
theorem Row.less (h : Row w B A n L) {M : Nat} (hM : M ≤ L) : Row w B A n M := fun hL => by
  obtain ⟨g, e, hg, hc⟩ := h (by omega); exact ⟨g, e, hg, fun j hj => hc j (by omega)⟩
theorem Row.congr (h : Row w B A n L) {m : Nat} (hm : n % W ^ L = m % W ^ L) : Row w B A m L := fun hL => by
  obtain ⟨g, e, hg, hc⟩ := h hL
  refine ⟨g, e, hg, fun j hj => ?_⟩
  rw [hc j hj, ← dgt_mod n hj, hm, dgt_mod m hj]
theorem Row.of_blk {T : TypeId} {g : Nat} (h : Blk w g T (wcells n L)) (hB : g < B) : Row w B (some ⟨g, 0, none⟩) n L := fun _ =>
  ⟨g, rfl, hB, fun j hj => by rw [h.cell, wcells_get n L j hj]⟩
theorem Row.none_ : Row w B A n 0 := fun h => absurd h (by omega)
end
/-- The slice value v is the number n, in words. -/
def Num (w : World) (B : Nat) (v : Value) (n : Nat) : Prop := ∃ A c, v = .slice A (nd W n) c ∧ nd W n ≤ c ∧ Row w B A n (nd W n)
theorem Num.below {w w' : World} {B : Nat} {v : Value} {n : Nat} (h : Num w B v n) (hb : Below B w w') : Num w' B v n := by
  obtain ⟨A, c, e, hc, hr⟩ := h; exact ⟨A, c, e, hc, hr.below hb⟩
theorem Num.more {w : World} {B B' : Nat} {v : Value} {n : Nat} (h : Num w B v n) (hB : B ≤ B') : Num w B' v n := by
  obtain ⟨A, c, e, hc, hr⟩ := h; exact ⟨A, c, e, hc, hr.more hB⟩
/-- What a function that makes a number leaves. -/
def NumPost (n : Nat) (w : World) (e : Ending) (w' : World) : Prop := ∃ v, e = .returned v ∧ Num w' w'.heap.size v n ∧ Below w.heap.size w w'
theorem NumPost.get {n : Nat} {w : World} {e : Ending} {w' : World} (h : NumPost n w e w') : ∃ A c, e = .returned (.slice A (nd W n) c) ∧ nd W n ≤ c ∧ Row w' w'.heap.size A n (nd W n) ∧ Below w.heap.size w w' := by
  obtain ⟨v, rfl, ⟨A, c, rfl, hc, hr⟩, hb⟩ := h; exact ⟨A, c, rfl, hc, hr, hb⟩
theorem NumPost.mk {n : Nat} {w w' : World} {A : Option Addr} {c : Nat} (hc : nd W n ≤ c) (hr : Row w' w'.heap.size A n (nd W n)) (hb : Below w.heap.size w w') : NumPost n w (.returned (.slice A (nd W n) c)) w' :=
  ⟨_, rfl, ⟨A, c, rfl, hc, hr⟩, hb⟩
/-- 'make([]T, n)': a new block of noughts. -/
theorem wpList_make_zero {P : Program} (w : World) {ops : Array Oper} {rest : List Oper} {o : Oper} {a : Act} {Q : Exit → Act → World → Prop}
    (hg : o.guard = none) (l c : Operand) (t : TypeId) (hop : o.op = Op.makeSlice t l c)
    (e : TypeId) (i : TypeInfo) (z : Value) (h1 : P.underlying t = some (.slice e)) (h2 : P.info? e = some i) (h3 : i.zero = some z) (h4 : i.size = 1)
    (kl kc : IntKind) (L C : Int) (n : Nat) (hl : a.eval l = .int kl L) (hc : a.eval c = .int kc C) (hL : L = (n : Int)) (hC : C = (n : Int)) (b2 : i.bytes * n ≤ 281474976710656) (b3 : n ≤ maxLen)
    (hK : wpList P ops Q rest (a.put o.dst (.slice (some ⟨w.heap.size, 0, none⟩) n n)) (w.alloc (.cells (madeCells z.cells (n * 1)) e))) :
    wpList P ops Q (o :: rest) a w := by
  refine wpList_plain hg fun K hK' => ?_
  have hr := run_make (P := P) w t e i z h1 h2 h3 kl kc n n (by omega) (Int.le_refl _) (by
    have h : ((i.bytes * n : Nat) : Int) ≤ 281474976710656 := by omega
    rwa [Int.natCast_mul] at h) (by have h := b3; simp [maxLen] at h; omega)
  simp only [Int.toNat_natCast, h4] at hr
  subst hL
  subst hC
  unfold Oper.wp
  simp [execOp, hop, hl, hc, hr, Result.andThen]
  exact hK' _ _ (by simpa using hK)
end Go.Proofs.YtajcapliokblfaaDoor
namespace Go.Proofs
open Go.Shelf
def Tryd.lays129_ren : Go.Shelf.Ren := ⟨fun | 129 => 91 | n => n, fun | 53 => 67 | 3 => 3 | 4 => 4 | 46 => 104 | 5 => 5 | 9 => 9 | n => n, fun | n => n⟩
theorem Tryd.lays129 : Go.Proofs.Lays.n129 Tryd.prog Tryd.lays129_ren := {
  mixed := by kernel_rfl
  f129 := Tryd.func91.trans (congrArg some (by kernel_rfl))
  t3 := Tryd.underlying3
  a3 := Tryd.isAgg3
  z3 := Tryd.sizeOf3
  v3 := Tryd.zeroValue3
  t4 := Tryd.underlying4
  a4 := Tryd.isAgg4
  z4 := Tryd.sizeOf4
  v4 := Tryd.zeroValue4
  t5 := Tryd.underlying5
  a5 := Tryd.isAgg5
  z5 := Tryd.sizeOf5
  v5 := Tryd.zeroValue5
  t9 := Tryd.underlying9
  a9 := Tryd.isAgg9
  z9 := Tryd.sizeOf9
  v9 := Tryd.zeroValue9
  t46 := Tryd.underlying104
  a46 := Tryd.isAgg104
  z46 := Tryd.sizeOf104
  v46 := Tryd.zeroValue104
  t53 := Tryd.underlying67
  a53 := Tryd.isAgg67
  z53 := Tryd.sizeOf67
  v53 := Tryd.zeroValue67 }
/-- bits.Len64: "Len64 returns the minimum number of bits required to represent x; the result is 0 for x == 0.": IT RETURNS 'Lib.bitLen x'; the world is as it was. ('h0', 'h1': x is a uint64.) (LAID: no walk: one application.) -/
theorem Tryd.bits_Len64 (x : Int) (w : World) (h0 : 0 ≤ x) (h1 : x ≤ 18446744073709551615) :
    Calls Tryd.prog 91 #[.int .u64 x] w fun e w' => e = .returned (.int .i64 (Lib.bitLen x.toNat)) ∧ w' = w := Any.bits_Len64 Tryd.lays129 x w h0 h1
def Tryd.lays126_ren : Go.Shelf.Ren := ⟨fun | 126 => 97 | n => n, fun | 5 => 5 | 3 => 3 | 9 => 9 | n => n, fun | n => n⟩
theorem Tryd.lays126 : Go.Proofs.Lays.n126 Tryd.prog Tryd.lays126_ren := {
  mixed := by kernel_rfl
  f126 := Tryd.func97.trans (congrArg some (by kernel_rfl))
  t3 := Tryd.underlying3
  a3 := Tryd.isAgg3
  z3 := Tryd.sizeOf3
  v3 := Tryd.zeroValue3
  t5 := Tryd.underlying5
  a5 := Tryd.isAgg5
  z5 := Tryd.sizeOf5
  v5 := Tryd.zeroValue5
  t9 := Tryd.underlying9
  a9 := Tryd.isAgg9
  z9 := Tryd.sizeOf9
  v9 := Tryd.zeroValue9 }
/-- bits.Len8: "Len8 returns the minimum number of bits required to represent x; the result is 0 for x == 0.": IT RETURNS 'Lib.bitLen x'; the world is as it was. ('h0', 'h1': x is a uint8.) (LAID: no walk: one application.) -/
theorem Tryd.bits_Len8 (x : Int) (w : World) (h0 : 0 ≤ x) (h1 : x ≤ 255) :
    Calls Tryd.prog 97 #[.int .u8 x] w fun e w' => e = .returned (.int .i64 (Lib.bitLen x.toNat)) ∧ w' = w := Any.bits_Len8 Tryd.lays126 x w h0 h1
def Tryd.lays125_ren : Go.Shelf.Ren := ⟨fun | 125 => 78 | 128 => 98 | 129 => 91 | n => n, fun | 46 => 104 | 3 => 3 | 51 => 126 | 53 => 67 | 4 => 4 | 5 => 5 | 9 => 9 | n => n, fun | n => n⟩
theorem Tryd.lays125 : Go.Proofs.Lays.n125 Tryd.prog Tryd.lays125_ren := {
  mixed := by kernel_rfl
  f125 := Tryd.func78.trans (congrArg some (by kernel_rfl))
  f128 := Tryd.func98.trans (congrArg some (by kernel_rfl))
  f129 := Tryd.func91.trans (congrArg some (by kernel_rfl))
  t3 := Tryd.underlying3
  a3 := Tryd.isAgg3
  z3 := Tryd.sizeOf3
  v3 := Tryd.zeroValue3
  t4 := Tryd.underlying4
  a4 := Tryd.isAgg4
  z4 := Tryd.sizeOf4
  v4 := Tryd.zeroValue4
  t5 := Tryd.underlying5
  a5 := Tryd.isAgg5
  z5 := Tryd.sizeOf5
  v5 := Tryd.zeroValue5
  t9 := Tryd.underlying9
  a9 := Tryd.isAgg9
  z9 := Tryd.sizeOf9
  v9 := Tryd.zeroValue9
  t46 := Tryd.underlying104
  a46 := Tryd.isAgg104
  z46 := Tryd.sizeOf104
  v46 := Tryd.zeroValue104
  t51 := Tryd.underlying126
  a51 := Tryd.isAgg126
  z51 := Tryd.sizeOf126
  v51 := Tryd.zeroValue126
  t53 := Tryd.underlying67
  a53 := Tryd.isAgg67
  z53 := Tryd.sizeOf67
  v53 := Tryd.zeroValue67 }
/-- bits.Len: "Len returns the minimum number of bits required to represent x; the result is 0 for x == 0.": IT RETURNS 'Lib.bitLen x'; the world is as it was. (A uint has 64 bits in the model.) ITS CALLEE bits.Len64 IS MET BY ITS OWN CONTRACT OFF THE SHELF (lay that first). (LAID: no walk: one application.) -/
theorem Tryd.bits_Len (x : Int) (w : World) (h0 : 0 ≤ x) (h1 : x ≤ 18446744073709551615) :
    Calls Tryd.prog 78 #[.int .u64 x] w fun e w' => e = .returned (.int .i64 (Lib.bitLen x.toNat)) ∧ w' = w := Any.bits_Len Tryd.lays125 x w h0 h1
def Tryd.lays134_ren : Go.Shelf.Ren := ⟨fun | 134 => 86 | 129 => 91 | n => n, fun | 53 => 67 | 3 => 3 | 4 => 4 | 46 => 104 | 5 => 5 | 9 => 9 | n => n, fun | n => n⟩
theorem Tryd.lays134 : Go.Proofs.Lays.n134 Tryd.prog Tryd.lays134_ren := {
  mixed := by kernel_rfl
  f129 := Tryd.func91.trans (congrArg some (by kernel_rfl))
  f134 := Tryd.func86.trans (congrArg some (by kernel_rfl))
  t3 := Tryd.underlying3
  a3 := Tryd.isAgg3
  z3 := Tryd.sizeOf3
  v3 := Tryd.zeroValue3
  t4 := Tryd.underlying4
  a4 := Tryd.isAgg4
  z4 := Tryd.sizeOf4
  v4 := Tryd.zeroValue4
  t5 := Tryd.underlying5
  a5 := Tryd.isAgg5
  z5 := Tryd.sizeOf5
  v5 := Tryd.zeroValue5
  t9 := Tryd.underlying9
  a9 := Tryd.isAgg9
  z9 := Tryd.sizeOf9
  v9 := Tryd.zeroValue9
  t46 := Tryd.underlying104
  a46 := Tryd.isAgg104
  z46 := Tryd.sizeOf104
  v46 := Tryd.zeroValue104
  t53 := Tryd.underlying67
  a53 := Tryd.isAgg67
  z53 := Tryd.sizeOf67
  v53 := Tryd.zeroValue67 }
/-- bits.LeadingZeros64: "LeadingZeros64 returns the number of leading zero bits in x; the result is 64 for x == 0.": IT RETURNS '64 - Lib.bitLen x'; the world is as it was. ITS CALLEE bits.Len64 IS MET BY ITS OWN CONTRACT OFF THE SHELF (lay that first): entered in place it sends the kernel out of memory. (LAID: no walk: one application.) -/
theorem Tryd.bits_LeadingZeros64 (x : Int) (w : World) (h0 : 0 ≤ x) (h1 : x ≤ 18446744073709551615) :
    Calls Tryd.prog 86 #[.int .u64 x] w fun e w' => e = .returned (.int .i64 (64 - (Lib.bitLen x.toNat : Int))) ∧ w' = w := Any.bits_LeadingZeros64 Tryd.lays134 x w h0 h1
def Tryd.lays264_ren : Go.Shelf.Ren := ⟨fun | 264 => 68 | n => n, fun | 53 => 67 | 46 => 104 | n => n, fun | n => n⟩
theorem Tryd.lays264 : Go.Proofs.Lays.n264 Tryd.prog Tryd.lays264_ren := {
  mixed := by kernel_rfl
  f264 := Tryd.func68.trans (congrArg some (by kernel_rfl))
  t46 := Tryd.underlying104
  a46 := Tryd.isAgg104
  z46 := Tryd.sizeOf104
  v46 := Tryd.zeroValue104
  t53 := Tryd.underlying67
  a53 := Tryd.isAgg67
  z53 := Tryd.sizeOf67
  v53 := Tryd.zeroValue67 }
open Go.RowKit Go.Lib in
theorem Tryd.bits_Mul64 (x y : Nat) (hx : x < 18446744073709551616) (hy : y < 18446744073709551616) (w : World) :
    Calls Tryd.prog 68 #[.int .u64 x, .int .u64 y] w fun e w' => e = .returned (.tuple #[.int .u64 ((x * y / 18446744073709551616 : Nat) : Int), .int .u64 ((x * y % 18446744073709551616 : Nat) : Int)]) ∧ w' = w := Any.bits_Mul64 Tryd.lays264 x y hx hy w
def Tryd.lays7n29_ren : Go.Shelf.Ren := ⟨fun | 29 => 106 | n => n, fun | 22 => 67 | 3 => 3 | 4 => 4 | 25 => 104 | 54 => 134 | 0 => 0 | 5 => 5 | n => n, fun | 1 => 4 | n => n⟩
theorem Tryd.lays7n29 : Go.Proofs.Lays7.n29 Tryd.prog Tryd.lays7n29_ren := {
  mixed := by kernel_rfl
  f29 := Tryd.func106.trans (congrArg some (by kernel_rfl))
  t0 := Tryd.underlying0
  a0 := Tryd.isAgg0
  z0 := Tryd.sizeOf0
  v0 := Tryd.zeroValue0
  i0 := by kernel_rfl
  t3 := Tryd.underlying3
  a3 := Tryd.isAgg3
  z3 := Tryd.sizeOf3
  v3 := Tryd.zeroValue3
  i3 := by kernel_rfl
  t4 := Tryd.underlying4
  a4 := Tryd.isAgg4
  z4 := Tryd.sizeOf4
  v4 := Tryd.zeroValue4
  i4 := by kernel_rfl
  t5 := Tryd.underlying5
  a5 := Tryd.isAgg5
  z5 := Tryd.sizeOf5
  v5 := Tryd.zeroValue5
  i5 := by kernel_rfl
  t22 := Tryd.underlying67
  a22 := Tryd.isAgg67
  z22 := Tryd.sizeOf67
  v22 := Tryd.zeroValue67
  i22 := by kernel_rfl
  t25 := Tryd.underlying104
  a25 := Tryd.isAgg104
  z25 := Tryd.sizeOf104
  v25 := Tryd.zeroValue104
  i25 := by kernel_rfl
  t54 := Tryd.underlying134
  a54 := Tryd.isAgg134
  z54 := Tryd.sizeOf134
  g1 := by kernel_rfl }
theorem Tryd.bits_TrailingZeros64 (x : Nat) (hx : x < 18446744073709551616) (w : World) (hT : x ≠ 0 → TabAt 4 Lib.deBruijn64tab w) :
    Calls Tryd.prog 106 #[.int .u64 x] w fun e w' => e = .returned (.int .i64 (Lib.ctz 64 x)) ∧ w' = w := Any7.bits_TrailingZeros64 Tryd.lays7n29 x hx w hT
def Tryd.lays7n25_ren : Go.Shelf.Ren := ⟨fun | 25 => 69 | n => n, fun | 22 => 67 | n => n, fun | n => n⟩
theorem Tryd.lays7n25 : Go.Proofs.Lays7.n25 Tryd.prog Tryd.lays7n25_ren := {
  mixed := by kernel_rfl
  f25 := Tryd.func69.trans (congrArg some (by kernel_rfl))
  t22 := Tryd.underlying67
  a22 := Tryd.isAgg67
  z22 := Tryd.sizeOf67
  v22 := Tryd.zeroValue67
  i22 := by kernel_rfl }
theorem Tryd.bits_Add64 (x y c : Nat) (hc : c ≤ 1) (w : World) :
    (callFunc 69 #[.int .u64 x, .int .u64 y, .int .u64 c]).run Tryd.prog w = .ok (.value (.tuple #[.int .u64 (((x + y + c) % 18446744073709551616 : Nat) : Int), .int .u64 (((x + y + c) / 18446744073709551616 : Nat) : Int)])) w := Any7.bits_Add64 Tryd.lays7n25 x y c hc w
def Tryd.lays7n26_ren : Go.Shelf.Ren := ⟨fun | 26 => 71 | n => n, fun | 22 => 67 | n => n, fun | n => n⟩
theorem Tryd.lays7n26 : Go.Proofs.Lays7.n26 Tryd.prog Tryd.lays7n26_ren := {
  mixed := by kernel_rfl
  f26 := Tryd.func71.trans (congrArg some (by kernel_rfl))
  t22 := Tryd.underlying67
  a22 := Tryd.isAgg67
  z22 := Tryd.sizeOf67
  v22 := Tryd.zeroValue67
  i22 := by kernel_rfl }
theorem Tryd.bits_Sub64 (x y b : Nat) (hb : b ≤ 1) (w : World) :
    (callFunc 71 #[.int .u64 x, .int .u64 y, .int .u64 b]).run Tryd.prog w = .ok (.value (.tuple #[.int .u64 (((x + 18446744073709551616 - y - b) % 18446744073709551616 : Nat) : Int), .int .u64 ((if x < y + b then 1 else 0 : Nat) : Int)])) w := Any7.bits_Sub64 Tryd.lays7n26 x y b hb w
end Go.Proofs
set_option linter.unusedSimpArgs false
set_option linter.unusedVariables false
namespace Go.Proofs.YtajcapliokblfaaDoor
open Go Go.RowKit Nt

def slen : Value → Nat | .slice _ n _ => n | _ => 0
theorem nd_pred {b n m : Nat} (hb : 2 ≤ b) (h : n < b ^ (m + 1)) (hz : dgt b n m = 0) : n < b ^ m := by
  have := mod_succ b n m
  rw [hz, Nat.mod_eq_of_lt h] at this
  rw [this, Nat.mul_zero, Nat.add_zero]; exact Nat.mod_lt _ (Nat.pow_pos (by omega))
theorem nd_just {b n m : Nat} (hb : 2 ≤ b) (h : n < b ^ (m + 1)) (hz : dgt b n m ≠ 0) : nd b n = m + 1 := by
  have h1 := nd_le hb h
  rcases Nat.lt_or_ge m (nd b n) with h2 | h2
  · omega
  · exact absurd (dgt_big hb h2) hz
theorem eqz_true {x : Nat} (h : x = 0) : (((x : Nat) : Int) == 0) = true := by subst h; rfl
theorem eqz_false {x : Nat} (h : x ≠ 0) : (((x : Nat) : Int) == 0) = false := by rw [beq_eq_false_iff_ne]; omega
theorem ret_slice {A : Option Addr} {n m c : Nat} (h : n = m) : Ending.returned (.slice A n c) = .returned (.slice A m c) := by rw [h]
theorem Cut_c (A : Option Addr) (L c n B : Nat) (w : World) (hn : n < W ^ L) (hLc : L ≤ c) (hL : c ≤ 9223372036854775807) (hr : Row w B A n L) :
    Calls Tryd.prog 70 #[.slice A L c] w fun e w' => e = .returned (.slice A (nd W n) c) ∧ w = w' := by
  have HN := Lib.hid hn
  have HR := Lib.hid hr
  clear hn hr
  go_enter Tryd.func70, Tryd.ntmps70
  go_wp2
  go_loop [0] (fun x => ∃ k : Nat, k ≤ L ∧ x = .slice A k c ∧ Hid (n < W ^ k)) (fun x => slen x)
  case atStart => exact ⟨L, Nat.le_refl _, rfl, HN⟩
  case round =>
    obtain ⟨k, hk, rfl, hnk⟩ := hrel
    by_cases h0 : k = 0
    · subst h0
      go_wp2
      go_ret
      exact ⟨ret_slice ((nd_eq_zero W2).2 (by have := hnk.out; rw [Nat.pow_zero] at this; omega)).symm, rfl⟩
    · obtain ⟨m, rfl⟩ : ∃ m, k = m + 1 := ⟨k - 1, by omega⟩
      obtain ⟨g, rfl, _, hcell⟩ := HR.out.at_ (k := m) (by omega)
      by_cases hz : dgt W n m = 0
      · have hz' := eqz_true hz
        have HZ := Lib.hid hz
        clear hz
        go_wp2
        go_round
        case rel => exact ⟨m, by omega, rfl, Lib.hid (nd_pred W2 hnk.out HZ.out)⟩
        case measure => simp [slen]
      · have hz' := eqz_false hz
        have HZ := Lib.hid hz
        clear hz
        go_wp2
        go_ret
        exact ⟨ret_slice (nd_just W2 hnk.out HZ.out).symm, rfl⟩
end Go.Proofs.YtajcapliokblfaaDoor
