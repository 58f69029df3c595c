/- A closed run, reckoned: calls; operations one behind the other. -/
import Derived.Test.YtjkonfopajihdaaDoorEv7
set_option linter.unusedVariables false
set_option linter.unusedSimpArgs false
namespace Go.Proofs.YtjkonfopajihdaaDoor
open Go Go.RowKit

section
variable {P : Program} {R : Rho}
/-- What a reckoner of calls promises. -/
def CallOk (P : Program) (call : CallE) : Prop := ∀ {floor : Nat} {g : FuncId} {l : List AV} {s : AS} {v : AV} {s' : AS}, call floor g l s = some (v, s') →
  ∀ {R : Rho} {w : World} {base : Nat} {xs : List Value}, Inv R s w floor base → VRels R l xs →
    Calls P g xs.toArray w fun e w' => ∃ R' x, e = .returned x ∧ VRel R' v x ∧ Went R R' s s' w w' floor base
theorem entered_run {g : FuncId} (h : entered P g = true) (xs : Array Value) (w : World) : (callFunc g xs).run P w = .ok (.enter g xs) w := by
  unfold entered at h
  split at h
  · rename_i fn hfn
    simp only [Bool.and_eq_true, Bool.not_eq_true'] at h
    have hb : ¬ fn.body = none := by intro e; rw [e] at h; simp at h
    have h2 : ¬ fn.name = "runtime.NumGoroutine" := by simpa using h.2
    simp [callFunc, hfn, h2, hb]
  · cases h
theorem callOf_ok {f : Fr} {a : Act} {o : Oper} {g : FuncId} {l : List AV} (h : callOf P f o = some (g, l)) (hf : FRel R f a.tmps) :
    ∃ xs, VRels R l xs ∧ ∀ w, (execOp a.eval o).run P w = .ok (.enter g xs.toArray) w := by
  unfold callOf at h
  obtain ⟨dst, op, type, pos, after, guard⟩ := o
  simp only at h
  split at h
  · rename_i x args argTypes
    split at h
    · rename_i g' fa fb hc
      split at h
      · rename_i he
        injection h with h
        injection h with h1 h2
        subst h1 h2
        have r := opnd_ok hf x
        rw [appL_eq, appL_eq]
        unfold calleeOf at hc
        split at hc
        · rename_i g2 p q e1
          injection hc with hc
          injection hc with h1 hc
          injection hc with h2 h3
          subst h1 h2 h3
          rw [e1] at r
          have r := lit_inv r
          rw [mapL_eq AV.lit, mapL_eq AV.lit]
          refine ⟨p.toList ++ (args.toList.map a.eval ++ q.toList), (VRels.lits_ _).append ((mapEval hf _).append (VRels.lits_ _)), fun w => ?_⟩
          simp only [execOp, resolve, r, Deferred.ofValue, Sem.run_bind, Sem.run_pure, Result.andThen_ok, invoke, entered_run he]
          congr 2
          apply Array.ext'
          simp
        · rename_i g2 p q e1
          injection hc with hc
          injection hc with h1 hc
          injection hc with h2 h3
          subst h1 h2 h3
          rw [e1] at r
          simp only [VRel] at r
          obtain ⟨as, bs, r1, r2, r3⟩ := r
          refine ⟨as ++ (args.toList.map a.eval ++ bs), r1.append ((mapEval hf _).append r2), fun w => ?_⟩
          simp only [execOp, resolve, r3, Deferred.ofValue, Sem.run_bind, Sem.run_pure, Result.andThen_ok, invoke, entered_run he]
          congr 2
          apply Array.ext'
          simp
        · cases hc
      · cases h
    · cases h
  · rename_i x name args argTypes
    unfold methodOf at h
    split at h
    · rename_i t v e
      split at h
      · rename_i g' r hm
        split at h
        · rename_i he
          injection h with h
          injection h with h1 h2
          subst h1 h2
          have r0 := opnd_ok hf x
          rw [e] at r0
          have r0 := lit_inv r0
          refine ⟨r :: args.toList.map a.eval, VRels.cons (VRel.lit_ _) (mapEval hf _), fun w => ?_⟩
          have hrun := runPure_ok hm w
          have hx : (#[Value.iface t v] ++ args.map a.eval).extract 1 (#[Value.iface t v] ++ args.map a.eval).size = args.map a.eval := by
            apply Array.ext'
            simp [List.take_of_length_le]
          have h0 : (#[Value.iface t v] ++ args.map a.eval)[0]? = some (.iface t v) := by rw [Array.getElem?_append_left (by simp)]; rfl
          simp only [execOp, resolve, r0, invoke, Sem.run_bind, Sem.run_pure, Result.andThen_ok, h0, hx, callMethod]
          have hp : ∀ w, Sem.run P program w = Result.ok P w := fun _ => rfl
          simp only [hp, Result.andThen_ok, hrun, entered_run he]
          congr 2
          apply Array.ext'
          simp
        · cases h
      · cases h
    · cases h
  · cases h
theorem putA_ok {f : Fr} {a : Act} (hf : FRel R f a.tmps) (d : Option Tmp) {v : AV} {x : Value} (h : VRel R v x) : FRel R (putA f d v) (a.put d x).tmps := by
  cases d with
  | none => exact hf
  | some d => exact hf.set d h
theorem put_defers (a : Act) (d : Option Tmp) (x : Value) : (a.put d x).defers = a.defers := by cases d <;> rfl
theorem yielded_ok {f : Fr} {a : Act} (hf : FRel R f a.tmps) (ops : Array Oper) (j : Nat) : yieldedA ops f j = yielded ops a.tmps j := by
  unfold yieldedA yielded
  cases hd : (ops[j]?).bind (·.dst) with
  | none => simp
  | some d =>
    simp only [Option.bind_some]
    have hg := hf.get d
    have hx : ∀ x, a.tmps.getD d undef = x → (∀ b, x ≠ .bool b) → (match a.tmps[d]? with | some (.bool b) => some b | _ => none) = (none : Option Bool) := by
      intro x hx hn
      rw [Array.getD_eq_getD_getElem?] at hx
      cases hv : a.tmps[d]? with
      | none => rfl
      | some y =>
        rw [hv] at hx
        have hx : y = x := hx
        subst hx
        cases y <;> first | rfl | exact absurd rfl (hn _)
    cases hv : getF f d with
    | lit u =>
      rw [hv] at hg
      have e := lit_inv hg
      by_cases hb : ∃ b, u = .bool b
      · obtain ⟨b, rfl⟩ := hb
        have : a.tmps[d]? = some (.bool b) := by
          rw [Array.getD_eq_getD_getElem?] at e
          cases hv2 : a.tmps[d]? with
          | none => rw [hv2] at e; cases e
          | some y => rw [hv2] at e; exact congrArg some e
        rw [this]
      · have h9 := hx _ e (fun b c => hb ⟨b, c⟩)
        cases u <;> first | exact absurd ⟨_, rfl⟩ hb | exact h9.symm
    | ptr k off => rw [hv] at hg; obtain ⟨_, _, _, e⟩ := ptr_inv hg; exact (hx _ e (fun b c => by cases c)).symm
    | sl k off len c sz => rw [hv] at hg; obtain ⟨_, _, _, _, e, _⟩ := sl_inv hg; exact (hx _ e (fun b c => by cases c)).symm
    | emp => rw [hv] at hg; simp only [VRel] at hg; obtain ⟨_, _, e⟩ := hg; exact (hx _ e (fun b c => by cases c)).symm
    | agg vs => rw [hv] at hg; simp only [VRel] at hg; obtain ⟨_, _, e⟩ := hg; exact (hx _ e (fun b c => by cases c)).symm
    | tup vs => rw [hv] at hg; simp only [VRel] at hg; obtain ⟨_, _, e⟩ := hg; exact (hx _ e (fun b c => by cases c)).symm
    | ifc t v => rw [hv] at hg; simp only [VRel] at hg; obtain ⟨_, _, e⟩ := hg; exact (hx _ e (fun b c => by cases c)).symm
    | fn g p q => rw [hv] at hg; simp only [VRel] at hg; obtain ⟨_, _, _, _, e⟩ := hg; exact (hx _ e (fun b c => by cases c)).symm
theorem wanted_ok {f : Fr} {a : Act} (hf : FRel R f a.tmps) (ops : Array Oper) (o : Oper) : Region.wanted o (yieldedA ops f) = Region.wanted o (yielded ops a.tmps) := by
  congr 1
  exact funext fun j => yielded_ok hf ops j
/-- One operation, carried out. -/
theorem evalOp_ok {call : CallE} (hcall : CallOk P call) {fl base : Nat} {s s' : AS} {w : World} (hI : Inv R s w fl base) {f : Fr} {a : Act} {o : Oper} (hf : FRel R f a.tmps) {v : AV}
    (h : evalOp P call fl f o s = some (v, s')) {next : Act → World → Prop} {Q : Exit → Act → World → Prop}
    (hn : ∀ R' x w', VRel R' v x → Went R R' s s' w w' fl base → next (a.put o.dst x) w') :
    o.wp P a w next Q := by
  rw [evalOp_eq] at h
  unfold evalOp0 at h
  unfold Oper.wp
  split at h
  · rename_i g l hc
    obtain ⟨xs, h1, h2⟩ := callOf_ok hc hf
    rw [h2 w, Oper.upon_enter]
    refine (hcall h hI h1).mono fun e w' ⟨R', x, he, hx, hw⟩ => ?_
    subst he
    exact hn R' x w' hx hw
  · rename_i hc
    split at h
    · rename_i r hr
      injection h with h
      subst h
      obtain ⟨nx, x, w', R', q1, q2, q3, q4⟩ := evalMem_ok (P := P) hI hf hr
      rw [q1]
      have := hn R' x w' q3 q4
      rcases q2 with rfl | ⟨rfl, rfl⟩
      · exact this
      · exact this
    · split at h
      · rename_i u hu
        injection h with h
        injection h with h1 h2
        subst h1 h2
        obtain ⟨x, hx, hrun⟩ := evalWl_ok hu hf
        rw [hrun w]
        exact hn R x w hx (Went.refl hI)
      · cases h
/-- One behind the other. -/
theorem evalSeq_ok {call : CallE} (hcall : CallOk P call) {floor base : Nat} {ops : Array Oper} {Q : Exit → Act → World → Prop} : ∀ (l : List Oper) {R : Rho} {f f' : Fr} {s s' : AS} {a : Act} {w : World},
    evalSeq P call floor ops l f s = some (f', s') → Inv R s w floor base → FRel R f a.tmps →
    (∀ R' a' w', Went R R' s s' w w' floor base → FRel R' f' a'.tmps → a'.defers = a.defers → Q .normal a' w') → wpList P ops Q l a w
  | [], R, f, f', s, s', a, w, h, hI, hf, hQ => by
    have h' : some (f, s) = some (f', s') := h
    injection h' with h'
    injection h' with h1 h2
    subst h1 h2
    exact hQ R a w (Went.refl hI) hf rfl
  | o :: l, R, f, f', s, s', a, w, h, hI, hf, hQ => by
    have h' : (match Region.wanted o (yieldedA ops f) with
      | true => match evalOp P call floor f o s with
        | some (v, s') => evalSeq P call floor ops l (putA f o.dst v) s'
        | none => none
      | false => evalSeq P call floor ops l (putA f o.dst (.lit undef)) s) = some (f', s') := h
    unfold wpList
    split at h'
    · rename_i hw
      rw [wanted_ok hf] at hw
      rw [if_pos hw]
      left
      split at h'
      · rename_i v s1 he
        refine evalOp_ok hcall hI hf he fun R' x w' hx hg => ?_
        refine evalSeq_ok hcall l h' hg.inv (putA_ok (hf.ext hg.ext) o.dst hx) fun R'' a'' w'' hg2 hf2 hd => hQ R'' a'' w'' (hg.trans hg2) hf2 (hd.trans (put_defers _ _ _))
      · cases h'
    · rename_i hw
      rw [wanted_ok hf] at hw
      rw [if_neg (by simp [hw])]
      exact evalSeq_ok hcall l h' hI (putA_ok hf o.dst (VRel.lit_ _)) fun R'' a'' w'' hg2 hf2 hd => hQ R'' a'' w'' hg2 hf2 (hd.trans (put_defers _ _ _))
end
end Go.Proofs.YtjkonfopajihdaaDoor
