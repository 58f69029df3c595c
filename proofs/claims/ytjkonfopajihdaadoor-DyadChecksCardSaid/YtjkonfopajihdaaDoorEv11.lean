/- A closed run, reckoned: code, calls, the whole. -/
import Derived.Test.YtjkonfopajihdaaDoorEv10
set_option linter.unusedVariables false
set_option linter.unusedSimpArgs false
namespace Go.Proofs.YtjkonfopajihdaaDoor
open Go Go.RowKit

section
variable {P : Program} {R : Rho}
theorem Inv.drawn {s : AS} {w : World} {fl b : Nat} (h : Inv R s w fl b) (n : Nat) : Inv R s { w with drawn := n } fl b := h.same rfl
theorem Went.drawn {R' : Rho} {s s' : AS} {w w' : World} {fl b n : Nat} (h : Went R R' s s' { w with drawn := n } w' fl b) : Went R R' s s' w w' fl b :=
  ⟨h.ext, h.old, h.num, h.keep, h.inv, ⟨h.below.os, h.below.tape, h.below.output, h.below.size, h.below.block⟩, h.fresh, h.more, h.wrote, h.other⟩
theorem evalRegion_ok {call : CallE} (hcall : CallOk P call) (hm : P.follows .mixedOrders = true) {floor base : Nat} {id : Nat} {ops : Array Oper} {draw : Bool} {f f' : Fr} {s s' : AS} (h : evalRegion P call floor ops draw f s = some (f', s'))
    {w : World} {a : Act} (hI : Inv R s w floor base) (hf : FRel R f a.tmps) {Q : Exit → Act → World → Prop} (hQ : ∀ R' a' w', Went R R' s s' w w' floor base → FRel R' f' a'.tmps → a'.defers = a.defers → Q .normal a' w') :
    (Code.region id ops draw).wp P Q a w := by
  unfold evalRegion at h
  split at h
  · exact wp_region_list (evalSeq_ok hcall ops.toList h hI hf hQ)
  · split at h
    · rename_i fs pl hpl
      split at h
      · rename_i hz
        split at h
        · rename_i f1 s1 tf he
          injection h with h
          injection h with h1 h2
          subst h1 h2
          obtain ⟨hns, hp, hfs⟩ := plan_ok hpl
          have hfl : FloOk P ops (fun i => fs.testBit i) := by
            rcases hfs with rfl | rfl
            · intro i hi; simp at hi
            · rw [Bool.or_eq_true] at hz
              rcases hz with hz | hz
              · rw [Nat.eq_of_beq_eq_true hz]; intro i hi; simp at hi
              · exact flo_ok hz
          let Q0 : Exit → Act → World → Prop := fun e a' w' => e = .normal ∧ Q .normal a' w'
          refine wp_mono (Q := Q0) ?_ (fun e a' w' hq => by obtain ⟨rfl, hq⟩ := hq; exact hq)
          refine wp_region_any hm (wpAny_of_U (S := Stands R s { w with drawn := w.drawn + 1 } tf) _ ?_)
          have hI1 := hI.drawn (w.drawn + 1)
          have hdown : Down ops (Array.replicate ops.size false) := fun j o ho hj => by
            have hjs : j < ops.size := (Array.getElem?_eq_some_iff.1 ho).1
            simp [hjs] at hj
          exact evalPlan_ok (Q := Q0) hcall hns (fun c a w h => by cases h.1) hfl hI1 (a0 := a) (fun R' a' w' hg hf2 hd => ⟨rfl, hQ R' a' w' hg.drawn hf2 hd⟩) _ pl (T := []) (Nat.le_refl _) hp he
            hdown (by show (Array.replicate ops.size false).toList.count false ≤ ops.size; rw [Array.toList_replicate, List.count_replicate]; simp) (fun t ht => by cases ht) .nil (Went.refl hI1) hf rfl (fun _ _ _ _ => rfl) (fun _ _ _ _ _ _ _ => rfl) (fun p hp => by cases hp)
        · cases h
      · cases h
    · cases h
def AX.out : AX → Exit
  | .normal => .normal
  | .exit id => .exit id
  | .goto l => .goto l
  | .ret => .ret
def Fin (R : Rho) (s : AS) (w : World) (a : Act) (floor base : Nat) (x : AX) (f' : Fr) (s' : AS) (e : Exit) (a' : Act) (w' : World) : Prop :=
  e = x.out ∧ ∃ R', Went R R' s s' w w' floor base ∧ FRel R' f' a'.tmps ∧ a'.defers = a.defers
def CodeOk (P : Program) (code : CodeE) : Prop := ∀ {floor : Nat} {c : Code} {f : Fr} {s : AS} {x : AX} {f' : Fr} {s' : AS}, code floor c f s = some (x, f', s') →
  ∀ {R : Rho} {w : World} {base : Nat} {a : Act}, Inv R s w floor base → FRel R f a.tmps → c.wp P (Fin R s w a floor base x f' s') a w
def LoopOk (P : Program) (code : CodeE) : Prop := ∀ {floor : Nat} {c : Code} {f : Fr} {s : AS} {x : AX} {f' : Fr} {s' : AS}, code floor c f s = some (x, f', s') →
  ∀ {R : Rho} {w : World} {base : Nat} {a : Act}, Inv R s w floor base → FRel R f a.tmps → ∀ (b : Frame) (k : List Item) (cs : List Frame),
    ∃ e a' w', Fin R s w a floor base x f' s' e a' w' ∧ Arrives P (lone (b.at a (.code c :: .inLoop c :: k)) cs w) b k cs e a' w'
def ScopeOk (P : Program) (code : Nat → Code → Code → Fr → AS → Option (AX × Fr × AS)) : Prop := ∀ {floor : Nat} {c cur : Code} {f : Fr} {s : AS} {x : AX} {f' : Fr} {s' : AS}, code floor c cur f s = some (x, f', s') →
  ∀ {R : Rho} {w : World} {base : Nat} {a : Act}, Inv R s w floor base → FRel R f a.tmps → ∀ (b : Frame) (k : List Item) (cs : List Frame),
    ∃ e a' w', Fin R s w a floor base x f' s' e a' w' ∧ Arrives P (lone (b.at a (.code cur :: .inScope c :: k)) cs w) b k cs e a' w'
structure EvOk (P : Program) (E : Ev) : Prop where
  code : CodeOk P E.code
  loop : LoopOk P E.loop
  scope : ScopeOk P E.scope
  call : CallOk P E.call
theorem Fin.trans {R R1 : Rho} {s s1 s2 : AS} {w w1 : World} {a a1 : Act} {fl b : Nat} {x : AX} {f2 : Fr} {e : Exit} {a' : Act} {w' : World} (h : Went R R1 s s1 w w1 fl b) (hd : a1.defers = a.defers) (h2 : Fin R1 s1 w1 a1 fl b x f2 s2 e a' w') :
    Fin R s w a fl b x f2 s2 e a' w' :=
  let ⟨he, R', hg, hf, hd2⟩ := h2
  ⟨he, R', h.trans hg, hf, hd2.trans hd⟩
theorem codeStep_ok {E : Ev} (hE : EvOk P E) (hm : P.follows .mixedOrders = true) : CodeOk P (codeStep P E) := by
  intro floor c f s x f' s' h R w base a hI hf
  unfold codeStep at h
  split at h
  · injection h with h; injection h with h1 h; injection h with h2 h3; subst h1 h2 h3
    exact wp_skip ⟨rfl, R, Went.refl hI, hf, rfl⟩
  · injection h with h; injection h with h1 h; injection h with h2 h3; subst h1 h2 h3
    exact wp_label ⟨rfl, R, Went.refl hI, hf, rfl⟩
  · rename_i id ops draw
    unfold codeRegion at h
    split at h
    · rename_i f1 s1 he
      rw [forceF_eq] at h
      injection h with h; injection h with h1 h; injection h with h2 h3; subst h1 h2 h3
      exact evalRegion_ok hE.call hm he hI hf fun R' a' w' hg hf2 hd => ⟨rfl, R', hg, hf2, hd⟩
    · cases h
  · rename_i p q
    unfold codeSeq at h
    refine wp_seq ?_
    cases he : E.code floor p f s with
    | none => rw [he] at h; cases h
    | some r =>
      obtain ⟨x1, f1, s1⟩ := r
      rw [he] at h
      refine wp_mono (hE.code he hI hf) fun e a1 w1 hq => ?_
      obtain ⟨hx, R1, hg, hf1, hd⟩ := hq
      subst hx
      cases x1 with
      | normal => exact wp_mono (hE.code h hg.inv hf1) fun e a2 w2 hq2 => Fin.trans hg hd hq2
      | exit id => injection h with h; injection h with h1 h; injection h with h2 h3; subst h1 h2 h3; exact ⟨rfl, R1, hg, hf1, hd⟩
      | goto l => injection h with h; injection h with h1 h; injection h with h2 h3; subst h1 h2 h3; exact ⟨rfl, R1, hg, hf1, hd⟩
      | ret => injection h with h; injection h with h1 h; injection h with h2 h3; subst h1 h2 h3; exact ⟨rfl, R1, hg, hf1, hd⟩
  · rename_i o p q
    unfold codeCond at h
    have hr := opnd_ok hf o
    split at h
    · rename_i e; rw [e] at hr; exact wp_cond_true (lit_inv hr) (hE.code h hI hf)
    · rename_i e; rw [e] at hr; exact wp_cond_false (lit_inv hr) (hE.code h hI hf)
    · cases h
  · rename_i id p
    unfold codeBlock at h
    refine wp_block ?_
    cases he : E.code floor p f s with
    | none => rw [he] at h; cases h
    | some r =>
      obtain ⟨x1, f1, s1⟩ := r
      rw [he] at h
      refine wp_mono (hE.code he hI hf) fun e a1 w1 hq => ?_
      obtain ⟨hx, R1, hg, hf1, hd⟩ := hq
      subst hx
      cases x1 with
      | exit j =>
        simp only at h
        show (if j = id then _ else _)
        split at h
        · rename_i hb
          have hb := Nat.eq_of_beq_eq_true hb
          rw [if_pos hb]
          injection h with h; injection h with h1 h; injection h with h2 h3; subst h1 h2 h3
          exact ⟨rfl, R1, hg, hf1, hd⟩
        · rename_i hb
          have hb := Nat.ne_of_beq_eq_false hb
          rw [if_neg hb]
          injection h with h; injection h with h1 h; injection h with h2 h3; subst h1 h2 h3
          exact ⟨rfl, R1, hg, hf1, hd⟩
      | normal => injection h with h; injection h with h1 h; injection h with h2 h3; subst h1 h2 h3; exact ⟨rfl, R1, hg, hf1, hd⟩
      | goto l => injection h with h; injection h with h1 h; injection h with h2 h3; subst h1 h2 h3; exact ⟨rfl, R1, hg, hf1, hd⟩
      | ret => injection h with h; injection h with h1 h; injection h with h2 h3; subst h1 h2 h3; exact ⟨rfl, R1, hg, hf1, hd⟩
  · rename_i p
    intro b k cs
    obtain ⟨e, a', w', hq, harr⟩ := hE.loop h hI hf b k cs
    exact ⟨e, a', w', hq, .of_steps (.one step_loop) harr⟩
  · rename_i p
    intro b k cs
    obtain ⟨e, a', w', hq, harr⟩ := hE.scope h hI hf b k cs
    exact ⟨e, a', w', hq, .of_steps (.one step_scope) harr⟩
  · injection h with h; injection h with h1 h; injection h with h2 h3; subst h1 h2 h3
    exact wp_exit ⟨rfl, R, Went.refl hI, hf, rfl⟩
  · injection h with h; injection h with h1 h; injection h with h2 h3; subst h1 h2 h3
    exact wp_goto ⟨rfl, R, Went.refl hI, hf, rfl⟩
  · injection h with h; injection h with h1 h; injection h with h2 h3; subst h1 h2 h3
    exact wp_ret ⟨rfl, R, Went.refl hI, hf, rfl⟩
  · cases h
theorem loopStep_ok {E : Ev} (hE : EvOk P E) : LoopOk P (loopStep E) := by
  intro floor c f s x f' s' h R w base a hI hf b k cs
  unfold loopStep at h
  cases he : E.code floor c f s with
  | none => rw [he] at h; cases h
  | some r =>
    obtain ⟨x1, f1, s1⟩ := r
    rw [he] at h
    obtain ⟨e, a1, w1, hq, harr⟩ := hE.code he hI hf b (.inLoop c :: k) cs
    obtain ⟨hx, R1, hg, hf1, hd⟩ := hq
    subst hx
    cases x1 with
    | normal =>
      obtain ⟨e2, a2, w2, hq2, harr2⟩ := hE.loop h hg.inv hf1 b k cs
      exact ⟨e2, a2, w2, Fin.trans hg hd hq2, .of_steps (Steps.trans harr (.one step_inLoop)) harr2⟩
    | exit id =>
      injection h with h; injection h with h1 h; injection h with h2 h3; subst h1 h2 h3
      exact ⟨_, a1, w1, ⟨rfl, R1, hg, hf1, hd⟩, .pass (x := .inLoop c) rfl (fun _ _ => .inl (by simp [AX.out])) harr⟩
    | goto l =>
      injection h with h; injection h with h1 h; injection h with h2 h3; subst h1 h2 h3
      exact ⟨_, a1, w1, ⟨rfl, R1, hg, hf1, hd⟩, .pass (x := .inLoop c) rfl (fun _ _ => .inl (by simp [AX.out])) harr⟩
    | ret =>
      injection h with h; injection h with h1 h; injection h with h2 h3; subst h1 h2 h3
      exact ⟨_, a1, w1, ⟨rfl, R1, hg, hf1, hd⟩, .pass (x := .inLoop c) rfl (fun _ _ => .inl (by simp [AX.out])) harr⟩
theorem scopeStep_ok {E : Ev} (hE : EvOk P E) : ScopeOk P (scopeStep E) := by
  intro floor c cur f s x f' s' h R w base a hI hf b k cs
  unfold scopeStep at h
  cases he : E.code floor cur f s with
  | none => rw [he] at h; cases h
  | some r =>
    obtain ⟨x1, f1, s1⟩ := r
    rw [he] at h
    obtain ⟨e, a1, w1, hq, harr⟩ := hE.code he hI hf b (.inScope c :: k) cs
    obtain ⟨hx, R1, hg, hf1, hd⟩ := hq
    subst hx
    cases x1 with
    | normal =>
      injection h with h; injection h with h1 h; injection h with h2 h3; subst h1 h2 h3
      exact ⟨_, a1, w1, ⟨rfl, R1, hg, hf1, hd⟩, Steps.trans harr (.one step_inScope)⟩
    | exit id =>
      injection h with h; injection h with h1 h; injection h with h2 h3; subst h1 h2 h3
      exact ⟨_, a1, w1, ⟨rfl, R1, hg, hf1, hd⟩, fun k' hk => harr k' (by simp [exitTo, hk])⟩
    | goto l =>
      simp only at h
      cases hl : findLabel c l with
      | some rest =>
        rw [hl] at h
        have hgo : gotoIn l (.inScope c :: k) = some (.code rest :: .inScope c :: k) := by simp [gotoIn, hl]
        obtain ⟨e2, a2, w2, hq2, harr2⟩ := hE.scope h hg.inv hf1 b k cs
        exact ⟨e2, a2, w2, Fin.trans hg hd hq2, .of_steps (harr _ hgo) harr2⟩
      | none =>
        rw [hl] at h
        injection h with h; injection h with h1 h; injection h with h2 h3; subst h1 h2 h3
        exact ⟨_, a1, w1, ⟨rfl, R1, hg, hf1, hd⟩, fun k' hk => harr k' (by simp [gotoIn, hl, hk])⟩
    | ret =>
      injection h with h; injection h with h1 h; injection h with h2 h3; subst h1 h2 h3
      exact ⟨_, a1, w1, ⟨rfl, R1, hg, hf1, hd⟩, harr⟩
def resF (tmps : Array Value) : ResultVar → Sem Value
  | .tmp t => pure (tmps.getD t undef)
  | .cell a t => do loadVar t (← asAddr (tmps.getD a undef))
theorem results_eq (fn : Func) (tmps : Array Value) : results fn tmps = (do let vs ← fn.results.mapM (resF tmps); pure (if h : vs.size = 1 then vs[0] else .tuple vs)) := by
  have : (fun (r : ResultVar) => (match r with
      | .tmp t => pure (tmps.getD t undef)
      | .cell a t => do loadVar t (← asAddr (tmps.getD a undef)) : Sem Value)) = resF tmps := funext fun r => by cases r <;> rfl
  unfold results
  rw [← this]
  rfl
theorem resA_ok {s : AS} {w : World} {fl b : Nat} (hI : Inv R s w fl b) {f : Fr} {tmps : Array Value} (hf : FRel R f tmps) : ∀ {l : List ResultVar} {vs : List AV}, resA P f s l = some vs →
    ∃ xs, VRels R vs xs ∧ (l.mapM (resF tmps)).run P w = .ok xs w
  | [], vs, h => by
    simp only [resA] at h
    injection h with h; subst h
    exact ⟨[], VRels.nil, rfl⟩
  | .tmp t :: r, vs, h => by
    simp only [resA] at h
    split at h
    · rename_i l' hl
      injection h with h; subst h
      obtain ⟨xs, h1, h2⟩ := resA_ok hI hf hl
      have := opnd_ok (a := ⟨tmps, []⟩) hf (.tmp t)
      exact ⟨_, VRels.cons this h1, by rw [List.mapM_cons]; simp only [resF, Sem.run_bind, Sem.run_pure, Result.andThen_ok, h2]; rfl⟩
    · cases h
  | .cell p t :: r, vs, h => by
    simp only [resA] at h
    split at h
    · rename_i k off e1
      split at h
      · rename_i B hB
        split at h
        · rename_i v l' hv hl
          injection h with h; subst h
          obtain ⟨xs, h1, h2⟩ := resA_ok hI hf hl
          have hp := opnd_ok (a := ⟨tmps, []⟩) hf (.tmp p)
          have e1' : opnd f (.tmp p) = .ptr k off := e1
          rw [e1'] at hp
          obtain ⟨b, T, r3, r4⟩ := ptr_inv hp
          have r4' : tmps.getD p undef = .pointer (some ⟨b, off, none⟩) := r4
          obtain ⟨b', T', r5, r6⟩ := hI.rel.blk hB
          obtain ⟨rfl, rfl⟩ := hI.rel.fn r3 r5
          obtain ⟨y, hy, hrun⟩ := load_ok (P := P) hv r6
          have hrun := hrun w rfl
          have : (loadVar t ⟨b, off, none⟩).run P w = .ok y w := by simpa [Instr.loadAt, Instr.sureAddr] using hrun
          refine ⟨_, VRels.cons hy h1, ?_⟩
          have hr1 : (resF tmps (.cell p t)).run P w = .ok y w := by
            simp only [resF, r4', asAddr, Sem.run_bind, Sem.run_pure, Result.andThen_ok, this]
          rw [List.mapM_cons]
          simp only [Sem.run_bind, Sem.run_pure, Result.andThen_ok, hr1, h2]
        · cases h
      · cases h
    · cases h
theorem look_dropNew_lt {j n : Nat} (hj : j < n) : ∀ {h : List (Nat × List AV)}, look j (dropNew n h) = look j h
  | [] => rfl
  | p :: h => by
    rw [dropNew_cons]
    split
    · rw [look_cons, if_neg (by omega), look_dropNew_lt hj]
    · rw [look_cons, look_cons, look_dropNew_lt hj]
theorem Went.end_ {R' : Rho} {s s' : AS} {w w' : World} {fl b : Nat} (hI : Inv R s w fl b) (h : Went R R' ⟨s.n, s.h, [], s.gl⟩ s' w w' fl b) : Went R R' s ⟨s'.n, s'.h, unionW (oldW s.n s'.wr) s.wr, s'.gl⟩ w w' fl b :=
  ⟨h.ext, h.old, h.num, h.keep, h.inv.wr_ _, h.below, h.fresh, fun _ hk => unionW_iff.2 (.inr hk), fun hk r hn => h.wrote hk r (fun hc => hn (unionW_iff.2 (.inl (oldW_iff.2 ⟨hc, (hI.rel.dom r).1⟩)))), h.other⟩
theorem Went.drop {R' : Rho} {s s' : AS} {w w' : World} {fl b : Nat} (hI : Inv R s w fl b) (h : Went R R' ⟨s.n, s.h, [], s.gl⟩ s' w w' fl b) : Went R R' s ⟨s'.n, dropNew s.n s'.h, unionW (oldW s.n s'.wr) s.wr, s'.gl⟩ w w' fl b :=
  have h' := h.end_ hI
  ⟨h'.ext, h'.old, h'.num, fun k hk => (look_dropNew_lt (by have := hI.hf; omega)).trans (h'.keep k hk),
    ⟨⟨h'.inv.rel.fn, h'.inv.rel.dom, fun h1 h2 r1 r2 => h'.inv.rel.inj (look_dropNew_some h1) (look_dropNew_some h2) r1 r2, fun h1 => h'.inv.rel.blk (look_dropNew_some h1)⟩, h'.inv.hb, h'.inv.hf, h'.inv.own, h'.inv.glo⟩, h'.below, h'.fresh, h'.more,
    fun hk r hn => let ⟨c1, c2⟩ := h'.wrote hk r hn; ⟨c1, (look_dropNew_lt (hI.rel.dom r).1).trans c2⟩, h'.other⟩
theorem callStep_ok {E : Ev} (hE : EvOk P E) : CallOk P (callStep P E) := by
  intro floor g l s v s' h R w base xs hI hl
  unfold callStep at h
  split at h
  · rename_i fn hfn
    split at h
    · rename_i c hc
      have hlen := hl.length
      have hf0 : FRel R (frame fn.ntmps l) (xs.toArray ++ Array.replicate (fn.ntmps - xs.toArray.size) undef) := frame_ok hl
      have body : ∀ {x : AX} {f1 : Fr} {s1 : AS}, E.code floor c (frame fn.ntmps l) ⟨s.n, s.h, [], s.gl⟩ = some (x, f1, s1) → (x = .normal ∨ x = .ret) →
          ∀ {vs : List AV}, resA P f1 s1 fn.results.toList = some vs → ∀ {s2 : AS} {u : AV}, (∀ {R' : Rho} {w' : World}, Went R R' ⟨s.n, s.h, [], s.gl⟩ s1 w w' floor base → Went R R' s s2 w w' floor base) →
          (∀ {R' : Rho} {ys : List Value}, VRels R' vs ys → VRel R' u (if h : ys.toArray.size = 1 then ys.toArray[0] else .tuple ys.toArray)) →
          Calls P g xs.toArray w fun e w' => ∃ R' x, e = .returned x ∧ VRel R' u x ∧ Went R R' s s2 w w' floor base := by
        intro x f1 s1 he hx vs hvs s2 u hs hu
        refine calls_of_wp hfn hc ?_
        refine wp_mono (hE.code he (hI.wr_ []) (a := { tmps := xs.toArray ++ Array.replicate (fn.ntmps - xs.toArray.size) undef, defers := [] }) hf0) fun e a1 w1 hq => ?_
        obtain ⟨hx', R1, hg, hf1, hd⟩ := hq
        obtain ⟨ys, h1, h2⟩ := resA_ok (P := P) hg.inv hf1 hvs
        have hres : (results fn a1.tmps).run P w1 = .ok (if h : ys.toArray.size = 1 then ys.toArray[0] else .tuple ys.toArray) w1 := by
          rw [results_eq, Array.mapM_eq_mapM_toList]
          simp only [Sem.run_bind, Sem.run_map, h2, Result.andThen_ok, Sem.run_pure]
        have fin : a1.defers = [] ∧ ∃ v, (results fn a1.tmps).run P w1 = .ok v w1 ∧ ∃ R' x, Ending.returned v = .returned x ∧ VRel R' u x ∧ Went R R' s s2 w w1 floor base :=
          ⟨hd, _, hres, R1, _, rfl, hu h1, hs hg⟩
        rcases hx with rfl | rfl
        · subst hx'; exact fin
        · subst hx'; exact fin
      have main : ∀ {x : AX} {f1 : Fr} {s1 : AS}, E.code floor c (frame fn.ntmps l) ⟨s.n, s.h, [], s.gl⟩ = some (x, f1, s1) → (x = .normal ∨ x = .ret) →
          (match resA P f1 s1 fn.results.toList with
            | some [v] => match isLit v && allL isLit l with
              | true => some (v, (⟨s1.n, dropNew s.n s1.h, unionW (oldW s.n s1.wr) s.wr, s1.gl⟩ : AS))
              | false => some (v, (⟨s1.n, s1.h, unionW (oldW s.n s1.wr) s.wr, s1.gl⟩ : AS))
            | some vs => match isLit (mkTup vs) && allL isLit l with
              | true => some (mkTup vs, (⟨s1.n, dropNew s.n s1.h, unionW (oldW s.n s1.wr) s.wr, s1.gl⟩ : AS))
              | false => some (mkTup vs, (⟨s1.n, s1.h, unionW (oldW s.n s1.wr) s.wr, s1.gl⟩ : AS))
            | none => none) = some (v, s') → Calls P g xs.toArray w fun e w' => ∃ R' x, e = .returned x ∧ VRel R' v x ∧ Went R R' s s' w w' floor base := by
        intro x f1 s1 he hx h
        split at h
        · rename_i u hvs
          have hu : ∀ {R' : Rho} {ys : List Value}, VRels R' [u] ys → VRel R' u (if h : ys.toArray.size = 1 then ys.toArray[0] else .tuple ys.toArray) := by
            intro R' ys hy
            simp only [VRels] at hy
            obtain ⟨y, ys', rfl, h1, rfl⟩ := hy
            simpa using h1
          split at h
          · injection h with h; injection h with h1 h2; subst h1 h2
            exact body he hx hvs (fun hg => hg.drop hI) hu
          · injection h with h; injection h with h1 h2; subst h1 h2
            exact body he hx hvs (fun hg => hg.end_ hI) hu
        · rename_i vs hne hvs
          have hu : ∀ {R' : Rho} {ys : List Value}, VRels R' vs ys → VRel R' (mkTup vs) (if h : ys.toArray.size = 1 then ys.toArray[0] else .tuple ys.toArray) := by
            intro R' ys hy
            have hl := hy.length
            rw [dif_neg]
            · exact VRel.mkTup hy
            · intro h1
              have h1 : vs.length = 1 := by simp at h1; omega
              obtain ⟨u, rfl⟩ := List.length_eq_one_iff.1 h1
              exact hne u rfl
          split at h
          · injection h with h; injection h with h1 h2; subst h1 h2
            exact body he hx hvs (fun hg => hg.drop hI) hu
          · injection h with h; injection h with h1 h2; subst h1 h2
            exact body he hx hvs (fun hg => hg.end_ hI) hu
        · cases h
      split at h
      · rename_i f1 s1 he; exact main he (.inl rfl) h
      · rename_i f1 s1 he; exact main he (.inr rfl) h
      · cases h
    · cases h
  · cases h
theorem ev_ok (hm : P.follows .mixedOrders = true) : ∀ n, EvOk P (ev P n)
  | 0 => ⟨fun h => (by cases h), fun h => (by cases h), fun h => (by cases h), fun h => (by cases h)⟩
  | n + 1 =>
    have hE := ev_ok hm n
    ⟨codeStep_ok hE hm, loopStep_ok hE, scopeStep_ok hE, callStep_ok hE⟩
/-- What is known of the program's variables. -/
def Globs (gl : List (Nat × List AV)) (w : World) : Prop := ∀ g B, look g gl = some B → g < w.heap.size ∧ ∀ i v, B[i]? = some v → ∃ u, v = .lit u ∧ w.cell? ⟨g, i, none⟩ = some u
theorem Globs.nil (w : World) : Globs [] w := fun _ _ h => by cases h
theorem inv0 {gl : List (Nat × List AV)} {w : World} (hg : Globs gl w) : Inv (fun _ _ _ => False) ⟨0, [], [], gl⟩ w 0 w.heap.size :=
  ⟨⟨fun h => h.elim, fun h => h.elim, (fun h => by cases h), (fun h => by cases h)⟩, Nat.le_refl _, Nat.le_refl _, fun h => h.elim, fun h => hg _ _ h⟩
/-- A CLOSED RUN: what the kernel reckons is what the call comes to, in whatever memory, whatever the tape. -/
theorem closed_ok (hm : P.follows .mixedOrders = true) {n : Nat} {g : FuncId} {l : List Value} {v : Value} {s : AS} {gl : List (Nat × List AV)} (h : (ev P n).call 0 g (mapL .lit l) ⟨0, [], [], gl⟩ = some (.lit v, s)) {w : World} (hg : Globs gl w) :
    Calls P g l.toArray w fun e w' => e = .returned v ∧ Below w.heap.size w w' := by
  rw [mapL_eq] at h
  exact ((ev_ok hm n).call h (inv0 hg) (VRels.lits_ l)).mono fun e w' ⟨R', x, he, hx, hg⟩ => ⟨by rw [he, lit_inv hx], hg.below⟩
theorem closed_with (hm : P.follows .mixedOrders = true) {gl : List (Nat × List AV)} {n : Nat} {g : FuncId} {l : List Value} {b : Bool} (h : saysG P gl n g l b = true) {w : World} (hg : Globs gl w) :
    Calls P g l.toArray w fun e w' => e = .returned (.bool b) ∧ Below w.heap.size w w' := by
  unfold saysG at h
  split at h
  · rename_i c s he
    have e : c = b := by simpa using h
    subst e
    exact closed_ok hm he hg
  · cases h
theorem closed_bool (hm : P.follows .mixedOrders = true) {n : Nat} {g : FuncId} {b : Bool} (h : saysB P n g b = true) (w : World) :
    Calls P g #[] w fun e w' => e = .returned (.bool b) ∧ Below w.heap.size w w' := closed_with hm (l := []) h (Globs.nil w)
end
end Go.Proofs.YtjkonfopajihdaaDoor
